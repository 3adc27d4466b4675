/- What came in, opened: a row of addresses. -/
import Derived.Test.YtlflbpemjlgdiaaEfF
import Derived.Test.YtlflbpemjlgdiaaEgA
namespace Go.Proofs.Ytlflbpemjlgdiaa
open Go.ChangeShapes Go.WideShapes Go.ChangeAt Go.RowKit Go.Deep
set_option linter.unusedVariables false
theorem bounds_u32' {n : Int} (h : (Lit.int .u32 n).wf = true) : IsU n := by
  have h1 : IntKind.u32.min = 0 := rfl
  have h2 : IntKind.u32.max = 4294967295 := rfl
  simp only [Lit.wf, Bool.and_eq_true, decide_eq_true_eq] at h
  unfold IsU; omega
theorem trod_u32s {H : Type} {enc : TypeId × Value → H} {W : World} {base fuel : Nat} {sp : Nat → Bool} {held : Bool} {cs : List Value} {x : DataW H × List MemPlace}
    (h : DataW.trod enc Try.prog W base sp held fuel 52 cs = some x) : ∃ a cap l, cs = [.slice a l.length cap] ∧ UT W (fun _ => True) a l ∧ l.length ≤ maxLen := by
  rcases open_slice Try.underlying52 h with ⟨hcs, _⟩ | ⟨a, len, cap, m, n, D, Pl, hcs, _, hl, hm, hmm, _, hel⟩
  · exact ⟨none, 0, [], hcs, fun i hi => by simp at hi, by simp⟩
  · rw [cells32] at hel
    have hlm : len ≤ m := by rw [hmm]; split <;> omega
    have hq : ∀ i, i < len → ∃ q : Int, W.cell? (a.add i) = some (.int .u32 q) ∧ IsU q := fun i hi => by
      obtain ⟨cs', h1, h2⟩ := hel i (by omega)
      obtain ⟨q, rfl, _, hw⟩ := DataW.trod_int Try.underlying40 h2
      rw [Nat.mul_one] at h1
      exact ⟨q, cell_of_cells?_one h1, bounds_u32' hw⟩
    obtain ⟨f, hf⟩ := choose_lt (α := Int) hq
    refine ⟨some a, cap, (List.range len).map f, by simpa using hcs, fun i hi => ?_, by simp; omega⟩
    have hi' : i < len := by simpa using hi
    obtain ⟨h1, h2⟩ := hf i hi'
    have hsp : a.spot = none := by simpa [Addr.add] using World.cell?_spot (hf 0 (by omega)).1
    obtain ⟨b, off, sp⟩ := a
    simp only at hsp
    subst hsp
    have e : ((List.range len).map f).getD i 0 = f i := by simp [List.getD, hi']
    rw [e]
    rw [add_addr] at h1
    have hlt : b < W.heap.size := by
      simp only [World.cell?] at h1
      cases hb : W.heap[b]? with
      | none => rw [hb] at h1; simp at h1
      | some o => exact (Array.getElem?_eq_some_iff.1 hb).1
    exact ⟨b, off, rfl, trivial, hlt, h1, h2⟩
set_option maxRecDepth 100000 in
theorem open_u32s {H : Type} {enc : TypeId × Value → H} {W : World} {base : Nat} {v : Value} {d : DataW H} {p : List MemPlace} (hval : Value.okWide Try.prog W .any base 52 v) (h : DataW.Trod enc Try.prog W 0 (fun _ => true) true 52 v d p) :
    ∃ a cap l, v = .slice a l.length cap ∧ UT W (fun _ => True) a l ∧ l.length ≤ maxLen := by
  obtain ⟨a0, len0, cap0, rfl⟩ := okWide_slice Try.underlying52 hval
  obtain ⟨fuel, hf⟩ := h
  obtain ⟨a, cap, l, h1, h2, h3⟩ := trod_u32s hf
  exact ⟨a, cap, l, by simpa [Value.cells] using h1, h2, h3⟩
end Go.Proofs.Ytlflbpemjlgdiaa
