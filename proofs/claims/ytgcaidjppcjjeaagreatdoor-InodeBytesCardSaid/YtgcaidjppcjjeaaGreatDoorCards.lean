/-
  DERIVED. GIVEN WITH THE SEED: THE CARDS: each row of YtgcaidjppcjjeaaGreatDoorRows.lean that lists a variable, with what it lists TIED to the program's text (the seventh form; the later family's looks); each row that meets fmt, with fmt's text TOLD by the authors' own Lean function (tested against real Go, not proved from fmt's source: count such statements apart). THE CARD IS WHAT COUNTS. Prove the row's statement (the work); the ties are given (YtgcaidjppcjjeaaGreatDoorTie.lean); close each card by the builder's one call (the guide's Derived/Test/ToyasCard.lean, 'card_holds'). Laid BY PROGRAM, IN A SANDBOX (cutbox-door.mjs). By AI agents, Wed Nov 11 2026. No macro, syntax, notation, axiom, sorry.
-/
import Derived.Test.YtgcaidjppcjjeaaGreatDoorRows
import GoSem.ClaimSeven
namespace Go.Proofs.YtgcaidjppcjjeaaGreatDoor
namespace Rows

/-- THE TIED CARD OF 'undercroftlaw10.InodePlays'. -/
def inodePlaysCard : Claim7 := { stood := { row := inodePlaysRow, standIns := [], harness := (true, "6b07dff453afbbace2124f2aeaa6d3ecf494c62d2923787aec06039527a32961"), looks := true }, kinds := [], alts := [], laidByText := true, laidKinds := [.handle], laidTests := true, laidLooks := .later }
def InodePlaysCardSaid : Prop := Claim7.holds Tryz.pinned (.plain (OpenSpec.ofChange inodePlaysSpec)) inodePlaysCard

/-- THE TIED CARD OF 'undercroftlaw10.InodeNeeds'. -/
def inodeNeedsCard : Claim7 := { stood := { row := inodeNeedsRow, standIns := [], harness := (true, "6b07dff453afbbace2124f2aeaa6d3ecf494c62d2923787aec06039527a32961"), looks := true }, kinds := [], alts := [], laidByText := true, laidKinds := [.handle], laidTests := true, laidLooks := .later }
def InodeNeedsCardSaid : Prop := Claim7.holds Tryz.pinned (.plain (OpenSpec.ofChange inodeNeedsSpec)) inodeNeedsCard

/-- THE TIED CARD OF 'undercroftlaw10.InodeBytes'. -/
def inodeBytesCard : Claim7 := { stood := { row := inodeBytesRow, standIns := [], harness := (true, "6b07dff453afbbace2124f2aeaa6d3ecf494c62d2923787aec06039527a32961"), looks := true }, kinds := [], alts := [], laidByText := true, laidKinds := [.handle], laidTests := true, laidLooks := .later }
def InodeBytesCardSaid : Prop := Claim7.holds Tryz.pinned (.plain (OpenSpec.ofChange inodeBytesSpec)) inodeBytesCard

/-- THE TIED CARD OF 'undercroftlaw10.InodeHolds'. -/
def inodeHoldsCard : Claim7 := { stood := { row := inodeHoldsRow, standIns := [], harness := (true, "6b07dff453afbbace2124f2aeaa6d3ecf494c62d2923787aec06039527a32961"), looks := true }, kinds := [], alts := [], laidByText := true, laidKinds := [.handle], laidTests := true, laidLooks := .later }
def InodeHoldsCardSaid : Prop := Claim7.holds Tryz.pinned (.plain (OpenSpec.ofChange inodeHoldsSpec)) inodeHoldsCard

/-- THE TIED CARD OF 'undercroftlaw10.InodeGives'. -/
def inodeGivesCard : Claim7 := { stood := { row := inodeGivesRow, standIns := [], harness := (true, "6b07dff453afbbace2124f2aeaa6d3ecf494c62d2923787aec06039527a32961"), looks := true }, kinds := [], alts := [], laidByText := true, laidKinds := [.handle], laidTests := true, laidLooks := .later }
def InodeGivesCardSaid : Prop := Claim7.holds Tryz.pinned (.plain (OpenSpec.ofChange inodeGivesSpec)) inodeGivesCard

/-- THE TIED CARD OF 'undercroftlaw10.InodeApart'. -/
def inodeApartCard : Claim7 := { stood := { row := inodeApartRow, standIns := [], harness := (true, "6b07dff453afbbace2124f2aeaa6d3ecf494c62d2923787aec06039527a32961"), looks := true }, kinds := [], alts := [], laidByText := true, laidKinds := [.handle], laidTests := true, laidLooks := .later }
def InodeApartCardSaid : Prop := Claim7.holds Tryz.pinned (.plain (OpenSpec.ofChange inodeApartSpec)) inodeApartCard

/-- THE SECOND FORM's CARD OF 'undercroftlaw10.InodePlays'. -/
def inodePlaysUptoCard : Claim7 := { stood := { row := inodePlaysUptoRow, standIns := [], harness := (true, "6b07dff453afbbace2124f2aeaa6d3ecf494c62d2923787aec06039527a32961"), looks := true }, kinds := [], alts := [], laidByText := true, laidKinds := [.handle], laidTests := true, laidLooks := .later }
def InodePlaysUptoCardSaid : Prop := Claim7.holds Tryz.pinned (.plain (OpenSpec.upto inodePlaysSpec)) inodePlaysUptoCard

/-- THE SECOND FORM's CARD OF 'undercroftlaw10.InodeNeeds'. -/
def inodeNeedsUptoCard : Claim7 := { stood := { row := inodeNeedsUptoRow, standIns := [], harness := (true, "6b07dff453afbbace2124f2aeaa6d3ecf494c62d2923787aec06039527a32961"), looks := true }, kinds := [], alts := [], laidByText := true, laidKinds := [.handle], laidTests := true, laidLooks := .later }
def InodeNeedsUptoCardSaid : Prop := Claim7.holds Tryz.pinned (.plain (OpenSpec.upto inodeNeedsSpec)) inodeNeedsUptoCard

/-- THE SECOND FORM's CARD OF 'undercroftlaw10.InodeBytes'. -/
def inodeBytesUptoCard : Claim7 := { stood := { row := inodeBytesUptoRow, standIns := [], harness := (true, "6b07dff453afbbace2124f2aeaa6d3ecf494c62d2923787aec06039527a32961"), looks := true }, kinds := [], alts := [], laidByText := true, laidKinds := [.handle], laidTests := true, laidLooks := .later }
def InodeBytesUptoCardSaid : Prop := Claim7.holds Tryz.pinned (.plain (OpenSpec.upto inodeBytesSpec)) inodeBytesUptoCard

/-- THE SECOND FORM's CARD OF 'undercroftlaw10.InodeHolds'. -/
def inodeHoldsUptoCard : Claim7 := { stood := { row := inodeHoldsUptoRow, standIns := [], harness := (true, "6b07dff453afbbace2124f2aeaa6d3ecf494c62d2923787aec06039527a32961"), looks := true }, kinds := [], alts := [], laidByText := true, laidKinds := [.handle], laidTests := true, laidLooks := .later }
def InodeHoldsUptoCardSaid : Prop := Claim7.holds Tryz.pinned (.plain (OpenSpec.upto inodeHoldsSpec)) inodeHoldsUptoCard

/-- THE SECOND FORM's CARD OF 'undercroftlaw10.InodeGives'. -/
def inodeGivesUptoCard : Claim7 := { stood := { row := inodeGivesUptoRow, standIns := [], harness := (true, "6b07dff453afbbace2124f2aeaa6d3ecf494c62d2923787aec06039527a32961"), looks := true }, kinds := [], alts := [], laidByText := true, laidKinds := [.handle], laidTests := true, laidLooks := .later }
def InodeGivesUptoCardSaid : Prop := Claim7.holds Tryz.pinned (.plain (OpenSpec.upto inodeGivesSpec)) inodeGivesUptoCard

/-- THE SECOND FORM's CARD OF 'undercroftlaw10.InodeApart'. -/
def inodeApartUptoCard : Claim7 := { stood := { row := inodeApartUptoRow, standIns := [], harness := (true, "6b07dff453afbbace2124f2aeaa6d3ecf494c62d2923787aec06039527a32961"), looks := true }, kinds := [], alts := [], laidByText := true, laidKinds := [.handle], laidTests := true, laidLooks := .later }
def InodeApartUptoCardSaid : Prop := Claim7.holds Tryz.pinned (.plain (OpenSpec.upto inodeApartSpec)) inodeApartUptoCard
end Rows
end Go.Proofs.YtgcaidjppcjjeaaGreatDoor
