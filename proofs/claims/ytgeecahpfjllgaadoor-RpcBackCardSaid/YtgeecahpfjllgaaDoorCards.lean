/-
  DERIVED. GIVEN WITH THE SEED: THE CARDS: each row of YtgeecahpfjllgaaDoorRows.lean that lists a variable, with what it lists TIED to the program's text (the seventh form; the later family's looks); each row that meets fmt, with fmt's text TOLD by the authors' own Lean function (tested against real Go, not proved from fmt's source: count such statements apart). THE CARD IS WHAT COUNTS. Prove the row's statement (the work); the ties are given (YtgeecahpfjllgaaDoorTie.lean); close each card by the builder's one call (the guide's Derived/Test/ToyasCard.lean, 'card_holds'). Laid BY PROGRAM, IN A SANDBOX (cutbox-door.mjs). By AI agents, Wed Nov 11 2026. No macro, syntax, notation, axiom, sorry.
-/
import Derived.Test.YtgeecahpfjllgaaDoorRows
import GoSem.ClaimSeven
namespace Go.Proofs.YtgeecahpfjllgaaDoor
namespace Rows

/-- THE TIED CARD OF 'undercroftlaw17.RpcCalls'. -/
def rpcCallsCard : Claim7 := { stood := { row := rpcCallsRow, standIns := [], harness := (true, "1299063257a7d9ae706590ff922556feec55875ce78cbf95ede9c12ec77c4e34"), looks := true }, kinds := [], alts := [], laidByText := true, laidKinds := [.handle], laidTests := true, laidLooks := .later }
def RpcCallsCardSaid : Prop := Claim7.holds Tryd.pinned (.plain (OpenSpec.ofChange rpcCallsSpec)) rpcCallsCard

/-- THE TIED CARD OF 'undercroftlaw17.RpcRecords'. -/
def rpcRecordsCard : Claim7 := { stood := { row := rpcRecordsRow, standIns := [], harness := (true, "1299063257a7d9ae706590ff922556feec55875ce78cbf95ede9c12ec77c4e34"), looks := true }, kinds := [], alts := [], laidByText := true, laidKinds := [.handle], laidTests := true, laidLooks := .later }
def RpcRecordsCardSaid : Prop := Claim7.holds Tryd.pinned (.plain (OpenSpec.ofChange rpcRecordsSpec)) rpcRecordsCard

/-- THE TIED CARD OF 'undercroftlaw17.RpcCreds'. -/
def rpcCredsCard : Claim7 := { stood := { row := rpcCredsRow, standIns := [], harness := (true, "1299063257a7d9ae706590ff922556feec55875ce78cbf95ede9c12ec77c4e34"), looks := true }, kinds := [], alts := [], laidByText := true, laidKinds := [.handle], laidTests := true, laidLooks := .later }
def RpcCredsCardSaid : Prop := Claim7.holds Tryd.pinned (.plain (OpenSpec.ofChange rpcCredsSpec)) rpcCredsCard

/-- THE TIED CARD OF 'undercroftlaw17.RpcBack'. -/
def rpcBackCard : Claim7 := { stood := { row := rpcBackRow, standIns := [], harness := (true, "1299063257a7d9ae706590ff922556feec55875ce78cbf95ede9c12ec77c4e34"), looks := true }, kinds := [], alts := [], laidByText := true, laidKinds := [.handle], laidTests := true, laidLooks := .later }
def RpcBackCardSaid : Prop := Claim7.holds Tryd.pinned (.plain (OpenSpec.ofChange rpcBackSpec)) rpcBackCard

/-- THE SECOND FORM's CARD OF 'undercroftlaw17.RpcCalls'. -/
def rpcCallsUptoCard : Claim7 := { stood := { row := rpcCallsUptoRow, standIns := [], harness := (true, "1299063257a7d9ae706590ff922556feec55875ce78cbf95ede9c12ec77c4e34"), looks := true }, kinds := [], alts := [], laidByText := true, laidKinds := [.handle], laidTests := true, laidLooks := .later }
def RpcCallsUptoCardSaid : Prop := Claim7.holds Tryd.pinned (.plain (OpenSpec.upto rpcCallsSpec)) rpcCallsUptoCard

/-- THE SECOND FORM's CARD OF 'undercroftlaw17.RpcRecords'. -/
def rpcRecordsUptoCard : Claim7 := { stood := { row := rpcRecordsUptoRow, standIns := [], harness := (true, "1299063257a7d9ae706590ff922556feec55875ce78cbf95ede9c12ec77c4e34"), looks := true }, kinds := [], alts := [], laidByText := true, laidKinds := [.handle], laidTests := true, laidLooks := .later }
def RpcRecordsUptoCardSaid : Prop := Claim7.holds Tryd.pinned (.plain (OpenSpec.upto rpcRecordsSpec)) rpcRecordsUptoCard

/-- THE SECOND FORM's CARD OF 'undercroftlaw17.RpcCreds'. -/
def rpcCredsUptoCard : Claim7 := { stood := { row := rpcCredsUptoRow, standIns := [], harness := (true, "1299063257a7d9ae706590ff922556feec55875ce78cbf95ede9c12ec77c4e34"), looks := true }, kinds := [], alts := [], laidByText := true, laidKinds := [.handle], laidTests := true, laidLooks := .later }
def RpcCredsUptoCardSaid : Prop := Claim7.holds Tryd.pinned (.plain (OpenSpec.upto rpcCredsSpec)) rpcCredsUptoCard

/-- THE SECOND FORM's CARD OF 'undercroftlaw17.RpcBack'. -/
def rpcBackUptoCard : Claim7 := { stood := { row := rpcBackUptoRow, standIns := [], harness := (true, "1299063257a7d9ae706590ff922556feec55875ce78cbf95ede9c12ec77c4e34"), looks := true }, kinds := [], alts := [], laidByText := true, laidKinds := [.handle], laidTests := true, laidLooks := .later }
def RpcBackUptoCardSaid : Prop := Claim7.holds Tryd.pinned (.plain (OpenSpec.upto rpcBackSpec)) rpcBackUptoCard
end Rows
end Go.Proofs.YtgeecahpfjllgaaDoor
