/- Rows of numbers and of bools that came in. -/
import Derived.Test.YtoifeioijoancaaDoorWcF
namespace Go.Proofs.YtoifeioijoancaaDoor
open Go.RowKit Go.Maps
set_option linter.unusedVariables false

/-- A row of numbers that came in. -/
def Ints (w : World) (a : Option Addr) (l : List Int) : Prop := ∀ i, i < l.length → ∃ b off, a = some ⟨b, off, none⟩ ∧ w.cell? ⟨b, off + i, none⟩ = some (.int .i64 (l.getD i 0)) ∧ IsI (l.getD i 0)
theorem Ints.below {w w' : World} {a : Option Addr} {l : List Int} (h : Ints w a l) (hb : Below w.heap.size w w') : Ints w' a l := fun i hi => by
  obtain ⟨b, off, h1, h2, h3⟩ := h i hi
  exact ⟨b, off, h1, cell_later hb h2, h3⟩
/-- A row of bools that came in. -/
def Bools (w : World) (a : Option Addr) (l : List Bool) : Prop := ∀ i, i < l.length → ∃ b off, a = some ⟨b, off, none⟩ ∧ w.cell? ⟨b, off + i, none⟩ = some (.bool (l.getD i false))
theorem Bools.below {w w' : World} {a : Option Addr} {l : List Bool} (h : Bools w a l) (hb : Below w.heap.size w w') : Bools w' a l := fun i hi => by
  obtain ⟨b, off, h1, h2⟩ := h i hi
  exact ⟨b, off, h1, cell_later hb h2⟩
end Go.Proofs.YtoifeioijoancaaDoor
