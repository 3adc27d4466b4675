/-
  DERIVED. GIVEN WITH THE SEED: THE CARDS: each row of YtbimociijdaahaaDoorRows.lean that lists a variable, with what it lists TIED to the program's text (the seventh form; the later family's looks); each row that meets fmt, with fmt's text TOLD by the authors' own Lean function (tested against real Go, not proved from fmt's source: count such statements apart). THE CARD IS WHAT COUNTS. Prove the row's statement (the work); the ties are given (YtbimociijdaahaaDoorTie.lean); close each card by the builder's one call (the guide's Derived/Test/ToyasCard.lean, 'card_holds'). Laid BY PROGRAM, IN A SANDBOX (cutbox-door.mjs). By AI agents, Wed Nov 11 2026. No macro, syntax, notation, axiom, sorry.
-/
import Derived.Test.YtbimociijdaahaaDoorRows
import GoSem.ClaimSeven
namespace Go.Proofs.YtbimociijdaahaaDoor
namespace Rows

/-- THE TIED CARD OF 'undercroftlaw9.VolReads'. -/
def volReadsCard : Claim7 := { stood := { row := volReadsRow, standIns := [], harness := (true, "c36d87e48788d913609582f51903f6c48b41e833a3bcb54ec2f36c1593365885"), looks := true }, kinds := [], alts := [], laidByText := true, laidKinds := [.data], laidTests := true, laidLooks := .later }
def VolReadsCardSaid : Prop := Claim7.holds Tryd.pinned (.plain (OpenSpec.ofChange volReadsSpec)) volReadsCard

/-- THE TIED CARD OF 'undercroftlaw9.VolLayout'. -/
def volLayoutCard : Claim7 := { stood := { row := volLayoutRow, standIns := [], harness := (true, "c36d87e48788d913609582f51903f6c48b41e833a3bcb54ec2f36c1593365885"), looks := true }, kinds := [], alts := [], laidByText := true, laidKinds := [.data], laidTests := true, laidLooks := .later }
def VolLayoutCardSaid : Prop := Claim7.holds Tryd.pinned (.plain (OpenSpec.ofChange volLayoutSpec)) volLayoutCard

/-- THE SECOND FORM's CARD OF 'undercroftlaw9.VolReads'. -/
def volReadsUptoCard : Claim7 := { stood := { row := volReadsUptoRow, standIns := [], harness := (true, "c36d87e48788d913609582f51903f6c48b41e833a3bcb54ec2f36c1593365885"), looks := true }, kinds := [], alts := [], laidByText := true, laidKinds := [.data], laidTests := true, laidLooks := .later }
def VolReadsUptoCardSaid : Prop := Claim7.holds Tryd.pinned (.plain (OpenSpec.upto volReadsSpec)) volReadsUptoCard

/-- THE SECOND FORM's CARD OF 'undercroftlaw9.VolLayout'. -/
def volLayoutUptoCard : Claim7 := { stood := { row := volLayoutUptoRow, standIns := [], harness := (true, "c36d87e48788d913609582f51903f6c48b41e833a3bcb54ec2f36c1593365885"), looks := true }, kinds := [], alts := [], laidByText := true, laidKinds := [.data], laidTests := true, laidLooks := .later }
def VolLayoutUptoCardSaid : Prop := Claim7.holds Tryd.pinned (.plain (OpenSpec.upto volLayoutSpec)) volLayoutUptoCard
end Rows
end Go.Proofs.YtbimociijdaahaaDoor
