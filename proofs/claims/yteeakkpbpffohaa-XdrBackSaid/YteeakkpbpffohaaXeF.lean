/- What came in, opened: a row of items and its room. -/
import Derived.Test.YteeakkpbpffohaaXbF
namespace Go.Proofs.Yteeakkpbpffohaa
open Go.ChangeShapes Go.WideShapes Go.ChangeAt Go.RowKit Go.Deep
set_option linter.unusedVariables false
section
variable {H : Type} {enc : TypeId × Value → H} {W : World}
set_option maxRecDepth 100000 in
theorem open_items2 {base : Nat} {v : Value} {d : DataW H} {p : List MemPlace} (hval : Value.okWide Try.prog W .any base 23 v) (h : DataW.Trod enc Try.prog W 0 (fun _ => true) true 23 v d p) :
    ∃ a cap l, v = .slice a l.length cap ∧ ItR W a l ∧ l.length ≤ maxLen ∧ l.length ≤ cap := by
  obtain ⟨a0, len0, cap0, rfl⟩ := okWide_slice Try.underlying23 hval
  obtain ⟨fuel, hf⟩ := h
  rcases open_slice Try.underlying23 hf with ⟨hcs, _⟩ | ⟨a, len, cap, m, n, D, Pl, hcs, _, hl, hm, hmm, _, hel⟩
  · simp [Value.cells] at hcs
    obtain ⟨rfl, rfl, rfl⟩ := hcs
    exact ⟨none, 0, [], rfl, fun i hi => by simp at hi, by simp, by simp⟩
  · simp [Value.cells] at hcs
    obtain ⟨rfl, rfl, rfl⟩ := hcs
    rw [cellsIt] at hel
    have hlm : len0 ≤ m := by rw [hmm]; split <;> omega
    have hq0 : ∀ i, i < len0 → ∃ s : It, s.ok W ∧ ∀ j, j < 5 → W.cell? ((a.add (i * 5)).add j) = (itC s)[j]? := fun i hi => by
      obtain ⟨cs', h1, h2⟩ := hel i (by omega)
      obtain ⟨_, hlen, hc⟩ := World.cells?_some h1
      obtain ⟨s, hs, he⟩ := item_at hlen h2
      exact ⟨s, hs, fun j hj => by rw [hc j hj, he j hj]⟩
    have hsp : 0 < len0 → a.spot = none := fun h0 => by
      obtain ⟨s, _, hc⟩ := hq0 0 h0
      have := hc 0 (by omega)
      simpa [Addr.add] using World.cell?_spot (this.trans (show (itC s)[0]? = some (.int .i64 s.kd) from rfl))
    obtain ⟨f, hf2⟩ := pick_lt hq0
    refine ⟨some a, cap0, (List.range len0).map f, by simp, fun i hi => ?_, by simp; omega, by simp; omega⟩
    have hi' : i < len0 := by simpa using hi
    have e : ((List.range len0).map f).getD i default = f i := by simp [List.getD, hi']
    rw [e]
    obtain ⟨h1, h2⟩ := hf2 i hi'
    have hs := hsp (by omega)
    obtain ⟨b, off, sp⟩ := a
    simp only at hs
    subst hs
    simp only [add_addr] at h2
    exact ⟨h1, b, off, rfl, h2⟩
end
end Go.Proofs.Yteeakkpbpffohaa
