/- sameInts, of two rows that read alike. -/
import Derived.Test.YtacmdhlemolngaaScV
namespace Go.Proofs.Ytacmdhlemolngaa
open Go.RowKit

theorem Lr.ints {w0 w : World} {lab : Nat → Own} {v : Value} {l : List Int} (h : Lr w0 w lab v l) : ∃ a c, v = .slice a l.length c ∧ ∀ i, i < l.length → ∃ b, a = some ⟨b, 0, none⟩ ∧ w.cell? ⟨b, i, none⟩ = some (.int .i64 (l.getD i 0)) := by
  obtain ⟨a, c, e⟩ := owns_slice h.1
  subst e
  refine ⟨a, c, rfl, fun i hi => ?_⟩
  obtain ⟨g, c', e, hc, _⟩ := owns_int h.1 hi
  simp only [Value.slice.injEq] at e
  exact ⟨g, e.1, hc⟩
set_option maxRecDepth 100000 in
theorem sameInts_same {w0 w : World} {lab : Nat → Own} {v v' : Value} {l : List Int} (h : Lr w0 w lab v l) (h' : Lr w0 w lab v' l) (hl : l.length ≤ 1048576) :
    Calls Try.prog 15 #[v, v'] w fun e w' => e = .returned (.bool true) ∧ Below w.heap.size w w' := by
  obtain ⟨a, c, rfl, h1⟩ := h.ints
  obtain ⟨a', c', rfl, h2⟩ := h'.ints
  have H1 := hid h1
  have H2 := hid h2
  clear h1 h2 h h'
  generalize hln : l.length = len at *
  clear hln
  go_enter Try.func15, Try.ntmps15
  go_wp2
  go_loopw [5] (fun z wr => ∃ i : Nat, i ≤ len ∧ z = .int .i64 i ∧ Below w.heap.size w wr) (fun z _ => len - (RowKit.intOf z).toNat)
  case atStart => exact ⟨0, Nat.zero_le _, rfl, Below.refl _ _⟩
  case round =>
    obtain ⟨i, hi, rfl, hbA⟩ := hrel
    have HBA := hid hbA
    by_cases hlt : i < len
    · have hki : (i : Int) < len := by omega
      obtain ⟨b, ea, k1⟩ := H1.out i hlt
      obtain ⟨b', ea', k2⟩ := H2.out i hlt
      subst ea ea'
      replace k1 := cell_later hbA k1
      replace k2 := cell_later hbA k2
      generalize l.getD i 0 = y at *
      clear hbA
      go_wp2
      go_quiet (fail)
      go_wp2
      go_roundw
      case rel => exact ⟨i + 1, by omega, by go_num, below_drewN HBA.out _⟩
      case measure => simp [RowKit.intOf]; omega
    · have hki : ¬ ((i : Int) < len) := by omega
      clear hbA
      go_wp2
      go_ret
      exact ⟨rfl, HBA.out⟩
end Go.Proofs.Ytacmdhlemolngaa
