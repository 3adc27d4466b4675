/- Package ip's Echo. -/
import Derived.Test.YtbhdbgippbopfaaPbE
namespace Go.Proofs.Ytbhdbgippbopfaa
open Go.RowKit Go.Maps
set_option linter.unusedVariables false
def ecE (l : List Int) : Int := if l.length < 8 then 11 else if inetL l ≠ 0 then 13 else if beOf ((l.drop 0).take 2) ≠ 2048 then 3 else 0
def ecR (l : List Int) : List Int := bytesBe 2 0 ++ bytesBe 2 (inetL (bytesBe 2 0 ++ l.drop 4)) ++ l.drop 4
def ecL (l : List Int) : List Int := if ecE l = 0 then ecR l else []
theorem ecR_len (l : List Int) (h : 8 ≤ l.length) : (ecR l).length = l.length := by simp [ecR, len_be]; omega
theorem newW (w : World) (o : Obj) : ∃ W, W = w.alloc o ∧ Below w.heap.size w W := ⟨_, rfl, below_alloc (Below.refl _ _) (Nat.le_refl _) _⟩
end Go.Proofs.Ytbhdbgippbopfaa
