/-
  DERIVED. GIVEN WITH THE SEED: THE CARDS: each row of YtnifdbameoilnaaGreatDoorRows.lean that lists a variable, with what it lists TIED to the program's text (the seventh form; the later family's looks); each row that meets fmt, with fmt's text TOLD by the authors' own Lean function (tested against real Go, not proved from fmt's source: count such statements apart). THE CARD IS WHAT COUNTS. Prove the row's statement (the work); the ties are given (YtnifdbameoilnaaGreatDoorTie.lean); close each card by the builder's one call (the guide's Derived/Test/ToyasCard.lean, 'card_holds'). Laid BY PROGRAM, IN A SANDBOX (cutbox-door.mjs). By AI agents, Wed Nov 11 2026. No macro, syntax, notation, axiom, sorry.
-/
import Derived.Test.YtnifdbameoilnaaGreatDoorRows
import GoSem.ClaimSeven
namespace Go.Proofs.YtnifdbameoilnaaGreatDoor
namespace Rows

/-- THE TIED CARD OF 'undercroftlaw10.InodeLong'. -/
def inodeLongCard : Claim7 := { stood := { row := inodeLongRow, standIns := [], harness := (true, "5bdffdb1e18e9a1a3c53b57a5483d7c9c2411e8da52094d62d92f405dbd77ca3"), looks := true }, kinds := [], alts := [], laidByText := true, laidKinds := [.handle], laidTests := true, laidLooks := .later }
def InodeLongCardSaid : Prop := Claim7.holds Tryz.pinned (.plain (OpenSpec.ofChange inodeLongSpec)) inodeLongCard

/-- THE SECOND FORM's CARD OF 'undercroftlaw10.InodeLong'. -/
def inodeLongUptoCard : Claim7 := { stood := { row := inodeLongUptoRow, standIns := [], harness := (true, "5bdffdb1e18e9a1a3c53b57a5483d7c9c2411e8da52094d62d92f405dbd77ca3"), looks := true }, kinds := [], alts := [], laidByText := true, laidKinds := [.handle], laidTests := true, laidLooks := .later }
def InodeLongUptoCardSaid : Prop := Claim7.holds Tryz.pinned (.plain (OpenSpec.upto inodeLongSpec)) inodeLongUptoCard
end Rows
end Go.Proofs.YtnifdbameoilnaaGreatDoor
