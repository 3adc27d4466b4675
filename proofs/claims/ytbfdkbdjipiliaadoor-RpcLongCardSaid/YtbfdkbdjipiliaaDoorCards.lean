/-
  DERIVED. GIVEN WITH THE SEED: THE CARDS: each row of YtbfdkbdjipiliaaDoorRows.lean that lists a variable, with what it lists TIED to the program's text (the seventh form; the later family's looks); each row that meets fmt, with fmt's text TOLD by the authors' own Lean function (tested against real Go, not proved from fmt's source: count such statements apart). THE CARD IS WHAT COUNTS. Prove the row's statement (the work); the ties are given (YtbfdkbdjipiliaaDoorTie.lean); close each card by the builder's one call (the guide's Derived/Test/ToyasCard.lean, 'card_holds'). Laid BY PROGRAM, IN A SANDBOX (cutbox-door.mjs). By AI agents, Wed Nov 11 2026. No macro, syntax, notation, axiom, sorry.
-/
import Derived.Test.YtbfdkbdjipiliaaDoorRows
import GoSem.ClaimSeven
namespace Go.Proofs.YtbfdkbdjipiliaaDoor
namespace Rows

/-- THE TIED CARD OF 'undercroftlaw17.RpcRecords'. -/
def rpcRecordsCard : Claim7 := { stood := { row := rpcRecordsRow, standIns := [], harness := (true, "d1eafc3c03ae39ebdc232970d52c0b6f7f40677d3677d17a4147c447af461a3b"), looks := true }, kinds := [], alts := [], laidByText := true, laidKinds := [.handle], laidTests := true, laidLooks := .later }
def RpcRecordsCardSaid : Prop := Claim7.holds Tryd.pinned (.plain (OpenSpec.ofChange rpcRecordsSpec)) rpcRecordsCard

/-- THE TIED CARD OF 'undercroftlaw17.RpcStreams'. -/
def rpcStreamsCard : Claim7 := { stood := { row := rpcStreamsRow, standIns := [], harness := (true, "d1eafc3c03ae39ebdc232970d52c0b6f7f40677d3677d17a4147c447af461a3b"), looks := true }, kinds := [], alts := [], laidByText := true, laidKinds := [.handle], laidTests := true, laidLooks := .later }
def RpcStreamsCardSaid : Prop := Claim7.holds Tryd.pinned (.plain (OpenSpec.ofChange rpcStreamsSpec)) rpcStreamsCard

/-- THE TIED CARD OF 'undercroftlaw17.RpcLong'. -/
def rpcLongCard : Claim7 := { stood := { row := rpcLongRow, standIns := [], harness := (true, "d1eafc3c03ae39ebdc232970d52c0b6f7f40677d3677d17a4147c447af461a3b"), looks := true }, kinds := [], alts := [], laidByText := true, laidKinds := [.handle], laidTests := true, laidLooks := .later }
def RpcLongCardSaid : Prop := Claim7.holds Tryd.pinned (.plain (OpenSpec.ofChange rpcLongSpec)) rpcLongCard

/-- THE SECOND FORM's CARD OF 'undercroftlaw17.RpcRecords'. -/
def rpcRecordsUptoCard : Claim7 := { stood := { row := rpcRecordsUptoRow, standIns := [], harness := (true, "d1eafc3c03ae39ebdc232970d52c0b6f7f40677d3677d17a4147c447af461a3b"), looks := true }, kinds := [], alts := [], laidByText := true, laidKinds := [.handle], laidTests := true, laidLooks := .later }
def RpcRecordsUptoCardSaid : Prop := Claim7.holds Tryd.pinned (.plain (OpenSpec.upto rpcRecordsSpec)) rpcRecordsUptoCard

/-- THE SECOND FORM's CARD OF 'undercroftlaw17.RpcStreams'. -/
def rpcStreamsUptoCard : Claim7 := { stood := { row := rpcStreamsUptoRow, standIns := [], harness := (true, "d1eafc3c03ae39ebdc232970d52c0b6f7f40677d3677d17a4147c447af461a3b"), looks := true }, kinds := [], alts := [], laidByText := true, laidKinds := [.handle], laidTests := true, laidLooks := .later }
def RpcStreamsUptoCardSaid : Prop := Claim7.holds Tryd.pinned (.plain (OpenSpec.upto rpcStreamsSpec)) rpcStreamsUptoCard

/-- THE SECOND FORM's CARD OF 'undercroftlaw17.RpcLong'. -/
def rpcLongUptoCard : Claim7 := { stood := { row := rpcLongUptoRow, standIns := [], harness := (true, "d1eafc3c03ae39ebdc232970d52c0b6f7f40677d3677d17a4147c447af461a3b"), looks := true }, kinds := [], alts := [], laidByText := true, laidKinds := [.handle], laidTests := true, laidLooks := .later }
def RpcLongUptoCardSaid : Prop := Claim7.holds Tryd.pinned (.plain (OpenSpec.upto rpcLongSpec)) rpcLongUptoCard
end Rows
end Go.Proofs.YtbfdkbdjipiliaaDoor
