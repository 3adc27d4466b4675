/-
  DERIVED. GIVEN WITH THE SEED: THE CARDS: each row of YthgmghfegaemkaaDoorRows.lean that lists a variable, with what it lists TIED to the program's text (the seventh form; the later family's looks); each row that meets fmt, with fmt's text TOLD by the authors' own Lean function (tested against real Go, not proved from fmt's source: count such statements apart). THE CARD IS WHAT COUNTS. Prove the row's statement (the work); the ties are given (YthgmghfegaemkaaDoorTie.lean); close each card by the builder's one call (the guide's Derived/Test/ToyasCard.lean, 'card_holds'). Laid BY PROGRAM, IN A SANDBOX (cutbox-door.mjs). By AI agents, Wed Nov 11 2026. No macro, syntax, notation, axiom, sorry.
-/
import Derived.Test.YthgmghfegaemkaaDoorRows
import GoSem.ClaimSeven
namespace Go.Proofs.YthgmghfegaemkaaDoor
namespace Rows

/-- THE TIED CARD OF 'undercroftlaw18.DrcKeys'. -/
def drcKeysCard : Claim7 := { stood := { row := drcKeysRow, standIns := [], harness := (true, "24d954673d85c2b3ac3908b535bcb864c55f2e36a550f2d3415188e56aa9a1ee"), looks := false }, kinds := [], alts := [], laidByText := true, laidKinds := [.data], laidTests := true, laidLooks := .later }
def DrcKeysCardSaid : Prop := Claim7.holds Tryd.pinned (.plain (OpenSpec.ofChange drcKeysSpec)) drcKeysCard

/-- THE SECOND FORM's CARD OF 'undercroftlaw18.DrcKeys'. -/
def drcKeysUptoCard : Claim7 := { stood := { row := drcKeysUptoRow, standIns := [], harness := (true, "24d954673d85c2b3ac3908b535bcb864c55f2e36a550f2d3415188e56aa9a1ee"), looks := false }, kinds := [], alts := [], laidByText := true, laidKinds := [.data], laidTests := true, laidLooks := .later }
def DrcKeysUptoCardSaid : Prop := Claim7.holds Tryd.pinned (.plain (OpenSpec.upto drcKeysSpec)) drcKeysUptoCard
end Rows
end Go.Proofs.YthgmghfegaemkaaDoor
