/-
  A slice of slices of bytes that came in, opened: for NumSums. No condition of its own.
-/
import Derived.Test.YtkmljnjikkmdhaaDoorFrame
import Derived.Test.YtkmljnjikkmdhaaDoorWalkS
import Derived.Deep.Slices
namespace Go.Proofs.YtkmljnjikkmdhaaDoor
open Go.ChangeShapes Go.WideShapes Go.ChangeAt Go.RowKit
set_option linter.unusedVariables false

theorem bytes22 : Tryd.prog.bytesOf 22 = 24 := by kernel_rfl
theorem cells22 : Tryd.prog.cellsOf 22 = 1 := by kernel_rfl
theorem open_row {H : Type} {enc : TypeId × Value → H} {W : World} {base fuel : Nat} {sp : Nat → Bool} {held : Bool} {v : Value} {x : DataW H × List MemPlace} (hf : DataW.trod enc Tryd.prog W base sp held fuel 22 [v] = some x) :
    ∃ p : Option Addr × Nat × List Int, v = .slice p.1 p.2.2.length p.2.1 ∧ Bytes W p.1 p.2.2 ∧ (p.1 = none → p.2.1 = 0) := by
  rcases open_ints Tryd.underlying22 Tryd.underlying5 cells5 hf with ⟨hcs, _⟩ | ⟨x, len0, cap0, zs, hcs, _, hl, hm, hz, hx, hcell, hwz⟩
  · simp at hcs
    subst hcs
    exact ⟨(none, 0, []), rfl, Bytes.nil_ _ _, fun _ => rfl⟩
  · simp at hcs
    subst hcs
    have hz2 : len0 ≤ zs.length := by rw [hz]; split <;> omega
    have hlen : (zs.take len0).length = len0 := by rw [List.length_take]; omega
    refine ⟨(some x, cap0, zs.take len0), by rw [hlen], fun i hi => ?_, fun e => by cases e⟩
    rw [hlen] at hi
    obtain ⟨b, off, spot⟩ := x
    have hc := hcell i (by omega)
    have hc0 := hcell 0 (by omega)
    have hspot : spot = none := by simpa [Addr.add] using World.cell?_spot hc0
    subst hspot
    have e : (⟨b, off, none⟩ : Addr).add i = ⟨b, off + i, none⟩ := by unfold Addr.add; split <;> simp_all
    rw [e] at hc
    have hg : (zs.take len0).getD i 0 = zs.getD i 0 := by simp [List.getD, hi]
    rw [hg]
    refine ⟨b, off, rfl, hc, ?_⟩
    have hm2 := hwz (zs.getD i 0) (by
      have hi2 : i < zs.length := by omega
      simp [List.getD, hi2])
    have := bounds_u8 hm2
    unfold IsB
    omega
/-- Rows of bytes that came in, opened. -/
theorem open_rows {H : Type} {enc : TypeId × Value → H} {W : World} {base : Nat} {v : Value} {d : DataW H} {p : List MemPlace} {ts : List TypeId} {ds : List (DataW H)} {j : Nat}
    (hval : Value.okWide Tryd.prog W .any base 39 v) (h : DataW.Trod enc Tryd.prog W 0 (fun _ => true) true 39 v d p)
    (hsz : (DataW.weightsEach Tryd.prog ts ds).all (· ≤ reachBytes) = true) (ht : ts[j]? = some 39) (hd : ds[j]? = some d) :
    ∃ a cap ls, v = .slice a ls.length cap ∧ InRows W a ls ∧ ls.length ≤ 140737488355328 := by
  obtain ⟨a0, len0, cap0, rfl⟩ := okWide_slice Tryd.underlying39 hval
  obtain ⟨fuel, hf⟩ := h
  rcases Go.Deep.open_slice1 Tryd.underlying39 cells22 hf with ⟨hcs, _⟩ | ⟨x, l, c, m, n, V, D, Pl, hcs, _, hl, hm, hmm, hx, hall⟩
  · simp [Value.cells] at hcs
    obtain ⟨rfl, rfl, rfl⟩ := hcs
    exact ⟨none, 0, [], rfl, fun i hi => by simp at hi, by simp⟩
  · simp [Value.cells] at hcs
    obtain ⟨rfl, rfl, rfl⟩ := hcs
    simp only [Prod.mk.injEq] at hx
    have hw := hx.1
    subst hw
    have hs := sized_slice hsz ht hd Tryd.underlying39
    rw [bytes22] at hs
    simp only [List.length_map, List.length_range, reachBytes] at hs
    have hm2 : m = cap0 := by simpa using hmm
    obtain ⟨f, hfx⟩ := Go.Deep.choose_lt (n := len0) (p := fun i (q : Option Addr × Nat × List Int) => V i = .slice q.1 q.2.2.length q.2.1 ∧ Bytes W q.1 q.2.2 ∧ (q.1 = none → q.2.1 = 0)) (fun i hi => open_row (hall i (by omega)).2)
    have hll : ((List.range len0).map fun i => (f i).2.2).length = len0 := by simp
    refine ⟨some x, cap0, (List.range len0).map fun i => (f i).2.2, by rw [hll], fun i hi => ?_, by rw [hll]; omega⟩
    rw [hll] at hi
    have hgd : ((List.range len0).map fun i => (f i).2.2).getD i [] = (f i).2.2 := by simp [List.getD, hi]
    rw [hgd]
    obtain ⟨b, off, spot⟩ := x
    have hc := (hall i (by omega)).1
    have hc0 := (hall 0 (by omega)).1
    have hspot : spot = none := by simpa [Addr.add] using World.cell?_spot hc0
    subst hspot
    have e : (⟨b, off, none⟩ : Addr).add i = ⟨b, off + i, none⟩ := by unfold Addr.add; split <;> simp_all
    rw [e, (hfx i hi).1] at hc
    exact ⟨b, off, (f i).1, (f i).2.1, rfl, hc, (hfx i hi).2.1, (hfx i hi).2.2⟩
end Go.Proofs.YtkmljnjikkmdhaaDoor
