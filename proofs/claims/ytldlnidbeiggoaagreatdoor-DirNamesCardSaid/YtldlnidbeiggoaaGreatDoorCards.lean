/-
  DERIVED. GIVEN WITH THE SEED: THE CARDS: each row of YtldlnidbeiggoaaGreatDoorRows.lean that lists a variable, with what it lists TIED to the program's text (the seventh form; the later family's looks); each row that meets fmt, with fmt's text TOLD by the authors' own Lean function (tested against real Go, not proved from fmt's source: count such statements apart). THE CARD IS WHAT COUNTS. Prove the row's statement (the work); the ties are given (YtldlnidbeiggoaaGreatDoorTie.lean); close each card by the builder's one call (the guide's Derived/Test/ToyasCard.lean, 'card_holds'). Laid BY PROGRAM, IN A SANDBOX (cutbox-door.mjs). By AI agents, Wed Nov 11 2026. No macro, syntax, notation, axiom, sorry.
-/
import Derived.Test.YtldlnidbeiggoaaGreatDoorRows
import GoSem.ClaimSeven
namespace Go.Proofs.YtldlnidbeiggoaaGreatDoor
namespace Rows

/-- THE TIED CARD OF 'undercroftlaw10.InodeHolds'. -/
def inodeHoldsCard : Claim7 := { stood := { row := inodeHoldsRow, standIns := [], harness := (true, "03edcac1ca20de769162ca429cf250be83214b5d4fb18d49a4c9dc66cf6c9b35"), looks := true }, kinds := [], alts := [], laidByText := true, laidKinds := [.handle], laidTests := true, laidLooks := .later }
def InodeHoldsCardSaid : Prop := Claim7.holds Tryz.pinned (.plain (OpenSpec.ofChange inodeHoldsSpec)) inodeHoldsCard

/-- THE TIED CARD OF 'undercroftlaw11.DirPlays'. -/
def dirPlaysCard : Claim7 := { stood := { row := dirPlaysRow, standIns := [], harness := (true, "03edcac1ca20de769162ca429cf250be83214b5d4fb18d49a4c9dc66cf6c9b35"), looks := true }, kinds := [], alts := [], laidByText := true, laidKinds := [.handle, .sentinel], laidTests := true, laidLooks := .later }
def DirPlaysCardSaid : Prop := Claim7.holds Tryz.pinned (.plain (OpenSpec.ofChange dirPlaysSpec)) dirPlaysCard

/-- THE TIED CARD OF 'undercroftlaw11.DirNames'. -/
def dirNamesCard : Claim7 := { stood := { row := dirNamesRow, standIns := [], harness := (true, "03edcac1ca20de769162ca429cf250be83214b5d4fb18d49a4c9dc66cf6c9b35"), looks := true }, kinds := [], alts := [], laidByText := true, laidKinds := [.handle, .sentinel], laidTests := true, laidLooks := .later }
def DirNamesCardSaid : Prop := Claim7.holds Tryz.pinned (.plain (OpenSpec.ofChange dirNamesSpec)) dirNamesCard

/-- THE TIED CARD OF 'undercroftlaw11.DirKeeps'. -/
def dirKeepsCard : Claim7 := { stood := { row := dirKeepsRow, standIns := [], harness := (true, "03edcac1ca20de769162ca429cf250be83214b5d4fb18d49a4c9dc66cf6c9b35"), looks := true }, kinds := [], alts := [], laidByText := true, laidKinds := [.handle, .sentinel], laidTests := true, laidLooks := .later }
def DirKeepsCardSaid : Prop := Claim7.holds Tryz.pinned (.plain (OpenSpec.ofChange dirKeepsSpec)) dirKeepsCard

/-- THE TIED CARD OF 'undercroftlaw11.DirLists'. -/
def dirListsCard : Claim7 := { stood := { row := dirListsRow, standIns := [], harness := (true, "03edcac1ca20de769162ca429cf250be83214b5d4fb18d49a4c9dc66cf6c9b35"), looks := true }, kinds := [], alts := [], laidByText := true, laidKinds := [.handle, .sentinel], laidTests := true, laidLooks := .later }
def DirListsCardSaid : Prop := Claim7.holds Tryz.pinned (.plain (OpenSpec.ofChange dirListsSpec)) dirListsCard

/-- THE TIED CARD OF 'undercroftlaw11.DirAbove'. -/
def dirAboveCard : Claim7 := { stood := { row := dirAboveRow, standIns := [], harness := (true, "03edcac1ca20de769162ca429cf250be83214b5d4fb18d49a4c9dc66cf6c9b35"), looks := true }, kinds := [], alts := [], laidByText := true, laidKinds := [.handle, .sentinel], laidTests := true, laidLooks := .later }
def DirAboveCardSaid : Prop := Claim7.holds Tryz.pinned (.plain (OpenSpec.ofChange dirAboveSpec)) dirAboveCard

/-- THE SECOND FORM's CARD OF 'undercroftlaw10.InodeHolds'. -/
def inodeHoldsUptoCard : Claim7 := { stood := { row := inodeHoldsUptoRow, standIns := [], harness := (true, "03edcac1ca20de769162ca429cf250be83214b5d4fb18d49a4c9dc66cf6c9b35"), looks := true }, kinds := [], alts := [], laidByText := true, laidKinds := [.handle], laidTests := true, laidLooks := .later }
def InodeHoldsUptoCardSaid : Prop := Claim7.holds Tryz.pinned (.plain (OpenSpec.upto inodeHoldsSpec)) inodeHoldsUptoCard

/-- THE SECOND FORM's CARD OF 'undercroftlaw11.DirPlays'. -/
def dirPlaysUptoCard : Claim7 := { stood := { row := dirPlaysUptoRow, standIns := [], harness := (true, "03edcac1ca20de769162ca429cf250be83214b5d4fb18d49a4c9dc66cf6c9b35"), looks := true }, kinds := [], alts := [], laidByText := true, laidKinds := [.handle, .sentinel], laidTests := true, laidLooks := .later }
def DirPlaysUptoCardSaid : Prop := Claim7.holds Tryz.pinned (.plain (OpenSpec.upto dirPlaysSpec)) dirPlaysUptoCard

/-- THE SECOND FORM's CARD OF 'undercroftlaw11.DirNames'. -/
def dirNamesUptoCard : Claim7 := { stood := { row := dirNamesUptoRow, standIns := [], harness := (true, "03edcac1ca20de769162ca429cf250be83214b5d4fb18d49a4c9dc66cf6c9b35"), looks := true }, kinds := [], alts := [], laidByText := true, laidKinds := [.handle, .sentinel], laidTests := true, laidLooks := .later }
def DirNamesUptoCardSaid : Prop := Claim7.holds Tryz.pinned (.plain (OpenSpec.upto dirNamesSpec)) dirNamesUptoCard

/-- THE SECOND FORM's CARD OF 'undercroftlaw11.DirKeeps'. -/
def dirKeepsUptoCard : Claim7 := { stood := { row := dirKeepsUptoRow, standIns := [], harness := (true, "03edcac1ca20de769162ca429cf250be83214b5d4fb18d49a4c9dc66cf6c9b35"), looks := true }, kinds := [], alts := [], laidByText := true, laidKinds := [.handle, .sentinel], laidTests := true, laidLooks := .later }
def DirKeepsUptoCardSaid : Prop := Claim7.holds Tryz.pinned (.plain (OpenSpec.upto dirKeepsSpec)) dirKeepsUptoCard

/-- THE SECOND FORM's CARD OF 'undercroftlaw11.DirLists'. -/
def dirListsUptoCard : Claim7 := { stood := { row := dirListsUptoRow, standIns := [], harness := (true, "03edcac1ca20de769162ca429cf250be83214b5d4fb18d49a4c9dc66cf6c9b35"), looks := true }, kinds := [], alts := [], laidByText := true, laidKinds := [.handle, .sentinel], laidTests := true, laidLooks := .later }
def DirListsUptoCardSaid : Prop := Claim7.holds Tryz.pinned (.plain (OpenSpec.upto dirListsSpec)) dirListsUptoCard

/-- THE SECOND FORM's CARD OF 'undercroftlaw11.DirAbove'. -/
def dirAboveUptoCard : Claim7 := { stood := { row := dirAboveUptoRow, standIns := [], harness := (true, "03edcac1ca20de769162ca429cf250be83214b5d4fb18d49a4c9dc66cf6c9b35"), looks := true }, kinds := [], alts := [], laidByText := true, laidKinds := [.handle, .sentinel], laidTests := true, laidLooks := .later }
def DirAboveUptoCardSaid : Prop := Claim7.holds Tryz.pinned (.plain (OpenSpec.upto dirAboveSpec)) dirAboveUptoCard
end Rows
end Go.Proofs.YtldlnidbeiggoaaGreatDoor
