/- The law's known. -/
import Derived.Test.YteeakkpbpffohaaPbC
namespace Go.Proofs.Yteeakkpbpffohaa
open Go.RowKit Go.Maps
set_option linter.unusedVariables false
theorem repl_getD (n i : Nat) : (List.replicate n (0 : Int)).getD i 0 = 0 := by
  simp only [List.getD, List.getElem?_replicate]; split <;> rfl
theorem get_map {L : List Px} {M : List Pk} (h : L.map Px.p = M) (i : Nat) (hi : i < L.length) (d : Pk) : (L.getD i default).p = M.getD i d := by
  rw [← h]; simp [List.getD, hi]
end Go.Proofs.Yteeakkpbpffohaa
