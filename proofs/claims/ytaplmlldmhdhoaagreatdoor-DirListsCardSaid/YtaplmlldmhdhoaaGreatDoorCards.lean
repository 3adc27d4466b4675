/-
  DERIVED. GIVEN WITH THE SEED: THE CARDS: each row of YtaplmlldmhdhoaaGreatDoorRows.lean that lists a variable, with what it lists TIED to the program's text (the seventh form; the later family's looks); each row that meets fmt, with fmt's text TOLD by the authors' own Lean function (tested against real Go, not proved from fmt's source: count such statements apart). THE CARD IS WHAT COUNTS. Prove the row's statement (the work); the ties are given (YtaplmlldmhdhoaaGreatDoorTie.lean); close each card by the builder's one call (the guide's Derived/Test/ToyasCard.lean, 'card_holds'). Laid BY PROGRAM, IN A SANDBOX (cutbox-door.mjs). By AI agents, Wed Nov 11 2026. No macro, syntax, notation, axiom, sorry.
-/
import Derived.Test.YtaplmlldmhdhoaaGreatDoorRows
import GoSem.ClaimSeven
namespace Go.Proofs.YtaplmlldmhdhoaaGreatDoor
namespace Rows

/-- THE TIED CARD OF 'undercroftlaw11.DirKeeps'. -/
def dirKeepsCard : Claim7 := { stood := { row := dirKeepsRow, standIns := [], harness := (true, "1c646f1c4f0abbeda92a4da7692c249d2b1e822b3672ec430399f59f6be36db8"), looks := true }, kinds := [], alts := [], laidByText := true, laidKinds := [.handle, .sentinel], laidTests := true, laidLooks := .later }
def DirKeepsCardSaid : Prop := Claim7.holds Tryz.pinned (.plain (OpenSpec.ofChange dirKeepsSpec)) dirKeepsCard

/-- THE TIED CARD OF 'undercroftlaw11.DirLists'. -/
def dirListsCard : Claim7 := { stood := { row := dirListsRow, standIns := [], harness := (true, "1c646f1c4f0abbeda92a4da7692c249d2b1e822b3672ec430399f59f6be36db8"), looks := true }, kinds := [], alts := [], laidByText := true, laidKinds := [.handle, .sentinel], laidTests := true, laidLooks := .later }
def DirListsCardSaid : Prop := Claim7.holds Tryz.pinned (.plain (OpenSpec.ofChange dirListsSpec)) dirListsCard

/-- THE SECOND FORM's CARD OF 'undercroftlaw11.DirKeeps'. -/
def dirKeepsUptoCard : Claim7 := { stood := { row := dirKeepsUptoRow, standIns := [], harness := (true, "1c646f1c4f0abbeda92a4da7692c249d2b1e822b3672ec430399f59f6be36db8"), looks := true }, kinds := [], alts := [], laidByText := true, laidKinds := [.handle, .sentinel], laidTests := true, laidLooks := .later }
def DirKeepsUptoCardSaid : Prop := Claim7.holds Tryz.pinned (.plain (OpenSpec.upto dirKeepsSpec)) dirKeepsUptoCard

/-- THE SECOND FORM's CARD OF 'undercroftlaw11.DirLists'. -/
def dirListsUptoCard : Claim7 := { stood := { row := dirListsUptoRow, standIns := [], harness := (true, "1c646f1c4f0abbeda92a4da7692c249d2b1e822b3672ec430399f59f6be36db8"), looks := true }, kinds := [], alts := [], laidByText := true, laidKinds := [.handle, .sentinel], laidTests := true, laidLooks := .later }
def DirListsUptoCardSaid : Prop := Claim7.holds Tryz.pinned (.plain (OpenSpec.upto dirListsSpec)) dirListsUptoCard
end Rows
end Go.Proofs.YtaplmlldmhdhoaaGreatDoor
