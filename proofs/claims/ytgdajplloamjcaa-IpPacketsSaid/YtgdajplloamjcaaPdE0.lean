/- A new box that is filled. -/
import Derived.Test.YtgdajplloamjcaaPdD
import Derived.Test.YtgdajplloamjcaaPdC
namespace Go.Proofs.Ytgdajplloamjcaa
open Go.RowKit Go.Maps
set_option linter.unusedVariables false
/-- A new box that is filled. -/
theorem boxF (w : World) (M : Array Value) (hs : M.size = 9) : ∃ W5, W5 = w.alloc (.cells (pkC 0 0 0 0 0 false false 0 (.slice none 0 0)) 25) ∧ W5.heap[w.heap.size]? = some (.cells (pkC 0 0 0 0 0 false false 0 (.slice none 0 0)) 25 (0, 0)) ∧ ∃ W6, W6 = W5.setRow w.heap.size M ∧ W6.heap[w.heap.size]? = some (.cells M 25 (0, 0)) ∧ Below w.heap.size w W6 := by
  obtain ⟨W5, h5, k5, b5⟩ := boxP w (pkC 0 0 0 0 0 false false 0 (.slice none 0 0)) 25
  refine ⟨W5, h5, k5, _, rfl, setRow_heap _ _ _ _ _ _ k5, (setRow_mods _ _ _).to_below b5 b5.size (fun x hx => by omega)⟩
theorem II_zero : II 0 := by unfold II; omega
end Go.Proofs.Ytgdajplloamjcaa
