/-
  DERIVED. GIVEN WITH THE SEED: THE CARDS: each row of YtgeecahpfjllgaaGreatDoorRows.lean that lists a variable, with what it lists TIED to the program's text (the seventh form; the later family's looks); each row that meets fmt, with fmt's text TOLD by the authors' own Lean function (tested against real Go, not proved from fmt's source: count such statements apart). THE CARD IS WHAT COUNTS. Prove the row's statement (the work); the ties are given (YtgeecahpfjllgaaGreatDoorTie.lean); close each card by the builder's one call (the guide's Derived/Test/ToyasCard.lean, 'card_holds'). Laid BY PROGRAM, IN A SANDBOX (cutbox-door.mjs). By AI agents, Wed Nov 11 2026. No macro, syntax, notation, axiom, sorry.
-/
import Derived.Test.YtgeecahpfjllgaaGreatDoorRows
import GoSem.ClaimSeven
namespace Go.Proofs.YtgeecahpfjllgaaGreatDoor
namespace Rows

/-- THE TIED CARD OF 'undercroftlaw17.RpcTurns'. -/
def rpcTurnsCard : Claim7 := { stood := { row := rpcTurnsRow, standIns := [], harness := (true, "fa72da92b51ff8d4a0a4fbce694dab619ee1f5e80eb1a2e0d868e641acca99d0"), looks := true }, kinds := [], alts := [], laidByText := true, laidKinds := [.handle], laidTests := true, laidLooks := .later }
def RpcTurnsCardSaid : Prop := Claim7.holds Tryz.pinned (.plain (OpenSpec.ofChange rpcTurnsSpec)) rpcTurnsCard

/-- THE TIED CARD OF 'undercroftlaw17.RpcWrites'. -/
def rpcWritesCard : Claim7 := { stood := { row := rpcWritesRow, standIns := [], harness := (true, "fa72da92b51ff8d4a0a4fbce694dab619ee1f5e80eb1a2e0d868e641acca99d0"), looks := true }, kinds := [], alts := [], laidByText := true, laidKinds := [.handle], laidTests := true, laidLooks := .later }
def RpcWritesCardSaid : Prop := Claim7.holds Tryz.pinned (.plain (OpenSpec.ofChange rpcWritesSpec)) rpcWritesCard

/-- THE SECOND FORM's CARD OF 'undercroftlaw17.RpcTurns'. -/
def rpcTurnsUptoCard : Claim7 := { stood := { row := rpcTurnsUptoRow, standIns := [], harness := (true, "fa72da92b51ff8d4a0a4fbce694dab619ee1f5e80eb1a2e0d868e641acca99d0"), looks := true }, kinds := [], alts := [], laidByText := true, laidKinds := [.handle], laidTests := true, laidLooks := .later }
def RpcTurnsUptoCardSaid : Prop := Claim7.holds Tryz.pinned (.plain (OpenSpec.upto rpcTurnsSpec)) rpcTurnsUptoCard

/-- THE SECOND FORM's CARD OF 'undercroftlaw17.RpcWrites'. -/
def rpcWritesUptoCard : Claim7 := { stood := { row := rpcWritesUptoRow, standIns := [], harness := (true, "fa72da92b51ff8d4a0a4fbce694dab619ee1f5e80eb1a2e0d868e641acca99d0"), looks := true }, kinds := [], alts := [], laidByText := true, laidKinds := [.handle], laidTests := true, laidLooks := .later }
def RpcWritesUptoCardSaid : Prop := Claim7.holds Tryz.pinned (.plain (OpenSpec.upto rpcWritesSpec)) rpcWritesUptoCard
end Rows
end Go.Proofs.YtgeecahpfjllgaaGreatDoor
