/-
  DERIVED. GIVEN WITH THE SEED: THE CARDS: each row of YtkmljnjikkmdhaaDoorRows.lean that lists a variable, with what it lists TIED to the program's text (the seventh form; the later family's looks); each row that meets fmt, with fmt's text TOLD by the authors' own Lean function (tested against real Go, not proved from fmt's source: count such statements apart). THE CARD IS WHAT COUNTS. Prove the row's statement (the work); the ties are given (YtkmljnjikkmdhaaDoorTie.lean); close each card by the builder's one call (the guide's Derived/Test/ToyasCard.lean, 'card_holds'). Laid BY PROGRAM, IN A SANDBOX (cutbox-door.mjs). By AI agents, Wed Nov 11 2026. No macro, syntax, notation, axiom, sorry.
-/
import Derived.Test.YtkmljnjikkmdhaaDoorRows
import GoSem.ClaimSeven
namespace Go.Proofs.YtkmljnjikkmdhaaDoor
namespace Rows

/-- THE TIED CARD OF 'undercroftlaw1.NumReads'. -/
def numReadsCard : Claim7 := { stood := { row := numReadsRow, standIns := [], harness := (true, "cec86c6a7b1b9ca4ffb566a74c4abcd554d4a20ac85a5dc3049b6c37571576cd"), looks := false }, kinds := [], alts := [], laidByText := true, laidKinds := [.data], laidTests := true, laidLooks := .later }
def NumReadsCardSaid : Prop := Claim7.holds Tryd.pinned (.plain (OpenSpec.ofChange numReadsSpec)) numReadsCard

/-- THE TIED CARD OF 'undercroftlaw1.NumWrites'. -/
def numWritesCard : Claim7 := { stood := { row := numWritesRow, standIns := [], harness := (true, "cec86c6a7b1b9ca4ffb566a74c4abcd554d4a20ac85a5dc3049b6c37571576cd"), looks := false }, kinds := [], alts := [], laidByText := true, laidKinds := [.data], laidTests := true, laidLooks := .later }
def NumWritesCardSaid : Prop := Claim7.holds Tryd.pinned (.plain (OpenSpec.ofChange numWritesSpec)) numWritesCard

/-- THE TIED CARD OF 'undercroftlaw1.NumSums'. -/
def numSumsCard : Claim7 := { stood := { row := numSumsRow, standIns := [], harness := (true, "cec86c6a7b1b9ca4ffb566a74c4abcd554d4a20ac85a5dc3049b6c37571576cd"), looks := false }, kinds := [], alts := [], laidByText := true, laidKinds := [.data], laidTests := true, laidLooks := .later }
def NumSumsCardSaid : Prop := Claim7.holds Tryd.pinned (.plain (OpenSpec.ofChange numSumsSpec)) numSumsCard

/-- THE TIED CARD OF 'undercroftlaw1.NumBack'. -/
def numBackCard : Claim7 := { stood := { row := numBackRow, standIns := [], harness := (true, "cec86c6a7b1b9ca4ffb566a74c4abcd554d4a20ac85a5dc3049b6c37571576cd"), looks := false }, kinds := [], alts := [], laidByText := true, laidKinds := [.data], laidTests := true, laidLooks := .later }
def NumBackCardSaid : Prop := Claim7.holds Tryd.pinned (.plain (OpenSpec.ofChange numBackSpec)) numBackCard

/-- THE TIED CARD OF 'undercroftlaw1.NumCuts'. -/
def numCutsCard : Claim7 := { stood := { row := numCutsRow, standIns := [], harness := (true, "cec86c6a7b1b9ca4ffb566a74c4abcd554d4a20ac85a5dc3049b6c37571576cd"), looks := false }, kinds := [], alts := [], laidByText := true, laidKinds := [.data], laidTests := true, laidLooks := .later }
def NumCutsCardSaid : Prop := Claim7.holds Tryd.pinned (.plain (OpenSpec.ofChange numCutsSpec)) numCutsCard

/-- THE TIED CARD OF 'undercroftlaw1.NumCheck'. -/
def numCheckCard : Claim7 := { stood := { row := numCheckRow, standIns := [], harness := (true, "cec86c6a7b1b9ca4ffb566a74c4abcd554d4a20ac85a5dc3049b6c37571576cd"), looks := false }, kinds := [], alts := [], laidByText := true, laidKinds := [.data], laidTests := true, laidLooks := .later }
def NumCheckCardSaid : Prop := Claim7.holds Tryd.pinned (.plain (OpenSpec.ofChange numCheckSpec)) numCheckCard

/-- THE SECOND FORM's CARD OF 'undercroftlaw1.NumReads'. -/
def numReadsUptoCard : Claim7 := { stood := { row := numReadsUptoRow, standIns := [], harness := (true, "cec86c6a7b1b9ca4ffb566a74c4abcd554d4a20ac85a5dc3049b6c37571576cd"), looks := false }, kinds := [], alts := [], laidByText := true, laidKinds := [.data], laidTests := true, laidLooks := .later }
def NumReadsUptoCardSaid : Prop := Claim7.holds Tryd.pinned (.plain (OpenSpec.upto numReadsSpec)) numReadsUptoCard

/-- THE SECOND FORM's CARD OF 'undercroftlaw1.NumWrites'. -/
def numWritesUptoCard : Claim7 := { stood := { row := numWritesUptoRow, standIns := [], harness := (true, "cec86c6a7b1b9ca4ffb566a74c4abcd554d4a20ac85a5dc3049b6c37571576cd"), looks := false }, kinds := [], alts := [], laidByText := true, laidKinds := [.data], laidTests := true, laidLooks := .later }
def NumWritesUptoCardSaid : Prop := Claim7.holds Tryd.pinned (.plain (OpenSpec.upto numWritesSpec)) numWritesUptoCard

/-- THE SECOND FORM's CARD OF 'undercroftlaw1.NumSums'. -/
def numSumsUptoCard : Claim7 := { stood := { row := numSumsUptoRow, standIns := [], harness := (true, "cec86c6a7b1b9ca4ffb566a74c4abcd554d4a20ac85a5dc3049b6c37571576cd"), looks := false }, kinds := [], alts := [], laidByText := true, laidKinds := [.data], laidTests := true, laidLooks := .later }
def NumSumsUptoCardSaid : Prop := Claim7.holds Tryd.pinned (.plain (OpenSpec.upto numSumsSpec)) numSumsUptoCard

/-- THE SECOND FORM's CARD OF 'undercroftlaw1.NumBack'. -/
def numBackUptoCard : Claim7 := { stood := { row := numBackUptoRow, standIns := [], harness := (true, "cec86c6a7b1b9ca4ffb566a74c4abcd554d4a20ac85a5dc3049b6c37571576cd"), looks := false }, kinds := [], alts := [], laidByText := true, laidKinds := [.data], laidTests := true, laidLooks := .later }
def NumBackUptoCardSaid : Prop := Claim7.holds Tryd.pinned (.plain (OpenSpec.upto numBackSpec)) numBackUptoCard

/-- THE SECOND FORM's CARD OF 'undercroftlaw1.NumCuts'. -/
def numCutsUptoCard : Claim7 := { stood := { row := numCutsUptoRow, standIns := [], harness := (true, "cec86c6a7b1b9ca4ffb566a74c4abcd554d4a20ac85a5dc3049b6c37571576cd"), looks := false }, kinds := [], alts := [], laidByText := true, laidKinds := [.data], laidTests := true, laidLooks := .later }
def NumCutsUptoCardSaid : Prop := Claim7.holds Tryd.pinned (.plain (OpenSpec.upto numCutsSpec)) numCutsUptoCard

/-- THE SECOND FORM's CARD OF 'undercroftlaw1.NumCheck'. -/
def numCheckUptoCard : Claim7 := { stood := { row := numCheckUptoRow, standIns := [], harness := (true, "cec86c6a7b1b9ca4ffb566a74c4abcd554d4a20ac85a5dc3049b6c37571576cd"), looks := false }, kinds := [], alts := [], laidByText := true, laidKinds := [.data], laidTests := true, laidLooks := .later }
def NumCheckUptoCardSaid : Prop := Claim7.holds Tryd.pinned (.plain (OpenSpec.upto numCheckSpec)) numCheckUptoCard
end Rows
end Go.Proofs.YtkmljnjikkmdhaaDoor
