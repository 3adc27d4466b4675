/- What came in, opened: rows of numbers, of truths, of rows. -/
import Derived.Test.YteeakkpbpffohaaXbF
import Derived.Test.YteeakkpbpffohaaXcA
namespace Go.Proofs.Yteeakkpbpffohaa
open Go.ChangeShapes Go.WideShapes Go.ChangeAt Go.RowKit Go.Deep
set_option linter.unusedVariables false
section
variable {H : Type} {enc : TypeId × Value → H} {W : World}
set_option maxRecDepth 100000 in
theorem open_u32s {base : Nat} {v : Value} {d : DataW H} {p : List MemPlace} (hval : Value.okWide Try.prog W .any base 46 v) (h : DataW.Trod enc Try.prog W 0 (fun _ => true) true 46 v d p) :
    ∃ a cap l, v = .slice a l.length cap ∧ U32s W a l ∧ l.length ≤ maxLen := by
  obtain ⟨a0, len0, cap0, rfl⟩ := okWide_slice Try.underlying46 hval
  obtain ⟨fuel, hf⟩ := h
  rcases open_slice Try.underlying46 hf with ⟨hcs, _⟩ | ⟨a, len, cap, m, n, D, Pl, hcs, _, hl, hm, hmm, _, hel⟩
  · simp [Value.cells] at hcs
    obtain ⟨rfl, rfl, rfl⟩ := hcs
    exact ⟨none, 0, [], rfl, fun i hi => by simp at hi, by simp⟩
  · simp [Value.cells] at hcs
    obtain ⟨rfl, rfl, rfl⟩ := hcs
    rw [cells32] at hel
    have hlm : len0 ≤ m := by rw [hmm]; split <;> omega
    have hq : ∀ i, i < len0 → ∃ q : Int, W.cell? (a.add i) = some (.int .u32 q) ∧ IsU q := fun i hi => by
      obtain ⟨cs', h1, h2⟩ := hel i (by omega)
      obtain ⟨q, rfl, _, hw⟩ := DataW.trod_int Try.underlying54 h2
      rw [Nat.mul_one] at h1
      have := bounds_u32 hw
      exact ⟨q, cell_of_cells?_one h1, by unfold IsU; omega⟩
    obtain ⟨f, hf2⟩ := pick_lt hq
    have hsp : 0 < len0 → a.spot = none := fun h0 => by simpa [Addr.add] using World.cell?_spot (hf2 0 h0).1
    refine ⟨some a, cap0, (List.range len0).map f, by simp, fun i hi => ?_, by simp; omega⟩
    have hi' : i < len0 := by simpa using hi
    have e : ((List.range len0).map f).getD i 0 = f i := by simp [List.getD, hi']
    rw [e]
    obtain ⟨h1, h2⟩ := hf2 i hi'
    have hs := hsp (by omega)
    obtain ⟨b, off, sp⟩ := a
    simp only at hs
    subst hs
    rw [add_addr] at h1
    exact ⟨b, off, rfl, h1, h2⟩
set_option maxRecDepth 100000 in
theorem open_u64s {base : Nat} {v : Value} {d : DataW H} {p : List MemPlace} (hval : Value.okWide Try.prog W .any base 47 v) (h : DataW.Trod enc Try.prog W 0 (fun _ => true) true 47 v d p) :
    ∃ a cap l, v = .slice a l.length cap ∧ Words W a l ∧ l.length ≤ maxLen := by
  obtain ⟨a0, len0, cap0, rfl⟩ := okWide_slice Try.underlying47 hval
  obtain ⟨fuel, hf⟩ := h
  rcases open_slice Try.underlying47 hf with ⟨hcs, _⟩ | ⟨a, len, cap, m, n, D, Pl, hcs, _, hl, hm, hmm, _, hel⟩
  · simp [Value.cells] at hcs
    obtain ⟨rfl, rfl, rfl⟩ := hcs
    exact ⟨none, 0, [], rfl, fun i hi => by simp at hi, by simp⟩
  · simp [Value.cells] at hcs
    obtain ⟨rfl, rfl, rfl⟩ := hcs
    rw [cells64] at hel
    have hlm : len0 ≤ m := by rw [hmm]; split <;> omega
    have hq : ∀ i, i < len0 → ∃ q : Int, W.cell? (a.add i) = some (.int .u64 q) ∧ IsW q := fun i hi => by
      obtain ⟨cs', h1, h2⟩ := hel i (by omega)
      obtain ⟨q, rfl, _, hw⟩ := DataW.trod_int Try.underlying31 h2
      rw [Nat.mul_one] at h1
      have := bounds_u64 hw
      exact ⟨q, cell_of_cells?_one h1, by unfold IsW; omega⟩
    obtain ⟨f, hf2⟩ := pick_lt hq
    have hsp : 0 < len0 → a.spot = none := fun h0 => by simpa [Addr.add] using World.cell?_spot (hf2 0 h0).1
    refine ⟨some a, cap0, (List.range len0).map f, by simp, fun i hi => ?_, by simp; omega⟩
    have hi' : i < len0 := by simpa using hi
    have e : ((List.range len0).map f).getD i 0 = f i := by simp [List.getD, hi']
    rw [e]
    obtain ⟨h1, h2⟩ := hf2 i hi'
    have hs := hsp (by omega)
    obtain ⟨b, off, sp⟩ := a
    simp only at hs
    subst hs
    rw [add_addr] at h1
    exact ⟨b, off, rfl, h1, h2⟩
set_option maxRecDepth 100000 in
theorem open_bools {base : Nat} {v : Value} {d : DataW H} {p : List MemPlace} (hval : Value.okWide Try.prog W .any base 48 v) (h : DataW.Trod enc Try.prog W 0 (fun _ => true) true 48 v d p) :
    ∃ a cap l, v = .slice a l.length cap ∧ Trus W a l ∧ l.length ≤ maxLen := by
  obtain ⟨a0, len0, cap0, rfl⟩ := okWide_slice Try.underlying48 hval
  obtain ⟨fuel, hf⟩ := h
  rcases open_slice Try.underlying48 hf with ⟨hcs, _⟩ | ⟨a, len, cap, m, n, D, Pl, hcs, _, hl, hm, hmm, _, hel⟩
  · simp [Value.cells] at hcs
    obtain ⟨rfl, rfl, rfl⟩ := hcs
    exact ⟨none, 0, [], rfl, fun i hi => by simp at hi, by simp⟩
  · simp [Value.cells] at hcs
    obtain ⟨rfl, rfl, rfl⟩ := hcs
    rw [cells4] at hel
    have hlm : len0 ≤ m := by rw [hmm]; split <;> omega
    have hq : ∀ i, i < len0 → ∃ q : Bool, W.cell? (a.add i) = some (.bool q) := fun i hi => by
      obtain ⟨cs', h1, h2⟩ := hel i (by omega)
      obtain ⟨q, rfl, _⟩ := DataW.trod_bool Try.underlying4 h2
      rw [Nat.mul_one] at h1
      exact ⟨q, cell_of_cells?_one h1⟩
    obtain ⟨f, hf2⟩ := pick_lt hq
    have hsp : 0 < len0 → a.spot = none := fun h0 => by simpa [Addr.add] using World.cell?_spot (hf2 0 h0)
    refine ⟨some a, cap0, (List.range len0).map f, by simp, fun i hi => ?_, by simp; omega⟩
    have hi' : i < len0 := by simpa using hi
    have e : ((List.range len0).map f).getD i false = f i := by simp [List.getD, hi']
    rw [e]
    have h1 := hf2 i hi'
    have hs := hsp (by omega)
    obtain ⟨b, off, sp⟩ := a
    simp only at hs
    subst hs
    rw [add_addr] at h1
    exact ⟨b, off, rfl, h1⟩
set_option maxRecDepth 100000 in
theorem open_rows {base : Nat} {v : Value} {d : DataW H} {p : List MemPlace} (hval : Value.okWide Try.prog W .any base 49 v) (h : DataW.Trod enc Try.prog W 0 (fun _ => true) true 49 v d p) :
    ∃ a cap l, v = .slice a l.length cap ∧ RowsOf W a l ∧ (l.length ≤ maxLen ∧ ∀ x ∈ l, x.length ≤ maxLen) := by
  obtain ⟨a0, len0, cap0, rfl⟩ := okWide_slice Try.underlying49 hval
  obtain ⟨fuel, hf⟩ := h
  rcases open_slice Try.underlying49 hf with ⟨hcs, _⟩ | ⟨a, len, cap, m, n, D, Pl, hcs, _, hl, hm, hmm, _, hel⟩
  · simp [Value.cells] at hcs
    obtain ⟨rfl, rfl, rfl⟩ := hcs
    exact ⟨none, 0, [], rfl, fun i hi => by simp at hi, by simp, fun x hx => by simp at hx⟩
  · simp [Value.cells] at hcs
    obtain ⟨rfl, rfl, rfl⟩ := hcs
    rw [cells22] at hel
    have hlm : len0 ≤ m := by rw [hmm]; split <;> omega
    have hq : ∀ i, i < len0 → ∃ q : List Int, ∃ ai ci, W.cell? (a.add i) = some (.slice ai q.length ci) ∧ Bytes W ai q ∧ q.length ≤ maxLen := fun i hi => by
      obtain ⟨cs', h1, h2⟩ := hel i (by omega)
      obtain ⟨ai, ci, q, rfl, hb, hmx, _⟩ := trod_bytes h2
      rw [Nat.mul_one] at h1
      exact ⟨q, ai, ci, cell_of_cells?_one h1, hb, hmx⟩
    obtain ⟨f, hf2⟩ := pick_lt hq
    have hsp : 0 < len0 → a.spot = none := fun h0 => by simpa [Addr.add] using World.cell?_spot (hf2 0 h0).choose_spec.choose_spec.1
    refine ⟨some a, cap0, (List.range len0).map f, by simp, fun i hi => ?_, by simp; omega, fun x hx => ?_⟩
    rotate_left
    · obtain ⟨i, hi, rfl⟩ := List.mem_map.1 hx
      exact (hf2 i (by simpa using hi)).choose_spec.choose_spec.2.2
    have hi' : i < len0 := by simpa using hi
    have e : ((List.range len0).map f).getD i [] = f i := by simp [List.getD, hi']
    rw [e]
    obtain ⟨ai, ci, h1, h2, _⟩ := hf2 i hi'
    have hs := hsp (by omega)
    obtain ⟨b, off, sp⟩ := a
    simp only at hs
    subst hs
    rw [add_addr] at h1
    exact ⟨b, off, ai, ci, rfl, h1, h2⟩
end
end Go.Proofs.Yteeakkpbpffohaa
