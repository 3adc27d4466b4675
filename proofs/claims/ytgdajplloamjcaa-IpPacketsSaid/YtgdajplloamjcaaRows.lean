/-
  No cell of these rows narrows 'for every input' (looked for: loops, veiled, ifaces, maps, wideKeys, modest, calm, conditions, laid).
  DERIVED. THE GIVEN ROWS OF THIS SEAT. 4 by the template 'for every input the law returns true; each argument reads behind the call as it read before'; 0 by the template 'total and deterministic' (their statements: YtgdajplloamjcaaTotals.lean).
  GIVEN WITH THE SEED: the statements are not yours to turn. If you find one false, say at which input.
  Laid BY PROGRAM, IN A SANDBOX (cutbox-rows.mjs): the forced cells as the released guide's own fill.sh prints them over the translation ae0d7e7a83262f95… (all of the seat's roots in one cut). By AI agents, Wed Nov 11 2026. No macro, syntax, notation, axiom, sorry.
-/
import Derived.Test.YtgdajplloamjcaaChecked
import GoSem.Claim
import GoSem.ClaimJoined
import GoSem.ClaimMapViews
import Derived.JoinedTies
import Derived.KernelRfl
namespace Go.Proofs.Ytgdajplloamjcaa
/- THE CELL 'sum', in the pinned program and in every row, IS THE sha256 OF THE DUMP (.gsa) THAT YtgdajplloamjcaaProg.lean LOADS. Nothing in Lean hashes anything: it is a label: what it is worth is what the hold of that sum in a sandbox is worth. -/
noncomputable def Try.pinned : Pinned := { name := "ytgdajplloamjcaa", sum := "ae0d7e7a83262f95a12a7760cc9fe5ef664e6a9d16775a392aa4e789f943b06f", checked := Try.checked }
namespace Rows
def none {H : Type} : Left H := { results := [], args := [] }

/-- 'undercroftlaw13.IpPackets': WHATEVER THE INPUT: true; the input reads as it did. -/
def ipPacketsSpec : ChangeSpec := { name := "ipPackets", fn := fun _ => fun
  | [d1, d2] => { results := [.lit (.bool true)], args := [d1, d2] }
  | _ => none }
def ipPacketsRow : OpenClaim := { program := "ytgdajplloamjcaa", sum := "ae0d7e7a83262f95a12a7760cc9fe5ef664e6a9d16775a392aa4e789f943b06f", func := "undercroft/undercroftlaw13.IpPackets", spec := "ipPackets", apart := false }
def IpPacketsSaid : Prop := ipPacketsRow.holds Try.pinned (OpenSpec.ofChange ipPacketsSpec)

/-- ITS FALSE NEIGHBOUR: 'it returns false'. Refute it at one input. -/
def ipPacketsWrong : ChangeSpec := { name := "ipPackets", fn := fun _ => fun
  | [d1, d2] => { results := [.lit (.bool false)], args := [d1, d2] }
  | _ => none }
def IpPacketsWrongFalsely : Prop := ipPacketsRow.holds Try.pinned (OpenSpec.ofChange ipPacketsWrong)

/-- 'undercroftlaw13.IpCuts': WHATEVER THE INPUT: true; the input reads as it did. -/
def ipCutsSpec : ChangeSpec := { name := "ipCuts", fn := fun _ => fun
  | [d1, d2] => { results := [.lit (.bool true)], args := [d1, d2] }
  | _ => none }
def ipCutsRow : OpenClaim := { program := "ytgdajplloamjcaa", sum := "ae0d7e7a83262f95a12a7760cc9fe5ef664e6a9d16775a392aa4e789f943b06f", func := "undercroft/undercroftlaw13.IpCuts", spec := "ipCuts", apart := false }
def IpCutsSaid : Prop := ipCutsRow.holds Try.pinned (OpenSpec.ofChange ipCutsSpec)

/-- ITS FALSE NEIGHBOUR: 'it returns false'. Refute it at one input. -/
def ipCutsWrong : ChangeSpec := { name := "ipCuts", fn := fun _ => fun
  | [d1, d2] => { results := [.lit (.bool false)], args := [d1, d2] }
  | _ => none }
def IpCutsWrongFalsely : Prop := ipCutsRow.holds Try.pinned (OpenSpec.ofChange ipCutsWrong)

/-- 'undercroftlaw13.IpEchoes': WHATEVER THE INPUT: true; the input reads as it did. -/
def ipEchoesSpec : ChangeSpec := { name := "ipEchoes", fn := fun _ => fun
  | [d1, d2] => { results := [.lit (.bool true)], args := [d1, d2] }
  | _ => none }
def ipEchoesRow : OpenClaim := { program := "ytgdajplloamjcaa", sum := "ae0d7e7a83262f95a12a7760cc9fe5ef664e6a9d16775a392aa4e789f943b06f", func := "undercroft/undercroftlaw13.IpEchoes", spec := "ipEchoes", apart := false }
def IpEchoesSaid : Prop := ipEchoesRow.holds Try.pinned (OpenSpec.ofChange ipEchoesSpec)

/-- ITS FALSE NEIGHBOUR: 'it returns false'. Refute it at one input. -/
def ipEchoesWrong : ChangeSpec := { name := "ipEchoes", fn := fun _ => fun
  | [d1, d2] => { results := [.lit (.bool false)], args := [d1, d2] }
  | _ => none }
def IpEchoesWrongFalsely : Prop := ipEchoesRow.holds Try.pinned (OpenSpec.ofChange ipEchoesWrong)

/-- 'undercroftlaw13.IpBack': WHATEVER THE INPUT: true; the input reads as it did. -/
def ipBackSpec : ChangeSpec := { name := "ipBack", fn := fun _ => fun
  | [d1, d2, d3, d4] => { results := [.lit (.bool true)], args := [d1, d2, d3, d4] }
  | _ => none }
def ipBackRow : OpenClaim := { program := "ytgdajplloamjcaa", sum := "ae0d7e7a83262f95a12a7760cc9fe5ef664e6a9d16775a392aa4e789f943b06f", func := "undercroft/undercroftlaw13.IpBack", spec := "ipBack", apart := false }
def IpBackSaid : Prop := ipBackRow.holds Try.pinned (OpenSpec.ofChange ipBackSpec)

/-- ITS FALSE NEIGHBOUR: 'it returns false'. Refute it at one input. -/
def ipBackWrong : ChangeSpec := { name := "ipBack", fn := fun _ => fun
  | [d1, d2, d3, d4] => { results := [.lit (.bool false)], args := [d1, d2, d3, d4] }
  | _ => none }
def IpBackWrongFalsely : Prop := ipBackRow.holds Try.pinned (OpenSpec.ofChange ipBackWrong)

/- THE SECOND FORM. 'bulk': how many values and letters a reading holds, each counted each time it is reached (what is shared counts as often as it is met; a slice's spare places count too). A statement '..UptoSaid' is the law's where the arguments, and the package variables that the reading takes, are together of bulk at most 1048576: NARROWER than '..Said'. Prove '..Said' where nothing that the law and all that it calls make is longer than what came in: it says more and counts as full. Else prove '..UptoSaid'. A law counts once. -/
mutual
def uptoBulk {H : Type} : DataW H → Nat
  | .lit (.string bytes) => bytes.length + 1
  | .lit _ => 1
  | .nil => 1
  | .ptr d => uptoBulk d + 1
  | .slice elems spare => uptoBulkAll elems + uptoBulkAll spare + 1
  | .agg parts => uptoBulkAll parts + 1
  | .iface _ d => uptoBulk d + 1
  | .map entries => uptoBulkEntries entries + 1
  | .held _ => 1
def uptoBulkAll {H : Type} : List (DataW H) → Nat
  | [] => 0
  | d :: r => uptoBulk d + uptoBulkAll r
def uptoBulkEntries {H : Type} : List (Lit × DataW H) → Nat
  | [] => 0
  | x :: r => uptoBulkEntry x + uptoBulkEntries r
def uptoBulkEntry {H : Type} : Lit × DataW H → Nat
  | (.string bytes, d) => bytes.length + uptoBulk d + 1
  | (_, d) => uptoBulk d + 1
 end
def uptoSmall : (H : Type) → List (DataW H) → Bool := fun _ ds => decide (uptoBulkAll ds ≤ 1048576)
def OpenSpec.upto (s : _root_.Go.ChangeSpec) : _root_.Go.OpenSpec := { _root_.Go.OpenSpec.ofChange s with cond := some uptoSmall }

/-- 'undercroftlaw13.IpPackets', WHERE WHAT IT READS IS OF BULK AT MOST 1048576: true; the input reads as it did. -/
def ipPacketsUptoRow : OpenClaim := { program := "ytgdajplloamjcaa", sum := "ae0d7e7a83262f95a12a7760cc9fe5ef664e6a9d16775a392aa4e789f943b06f", func := "undercroft/undercroftlaw13.IpPackets", spec := "ipPackets", apart := false, narrowed := true }
def IpPacketsUptoSaid : Prop := ipPacketsUptoRow.holds Try.pinned (OpenSpec.upto ipPacketsSpec)

/-- 'undercroftlaw13.IpCuts', WHERE WHAT IT READS IS OF BULK AT MOST 1048576: true; the input reads as it did. -/
def ipCutsUptoRow : OpenClaim := { program := "ytgdajplloamjcaa", sum := "ae0d7e7a83262f95a12a7760cc9fe5ef664e6a9d16775a392aa4e789f943b06f", func := "undercroft/undercroftlaw13.IpCuts", spec := "ipCuts", apart := false, narrowed := true }
def IpCutsUptoSaid : Prop := ipCutsUptoRow.holds Try.pinned (OpenSpec.upto ipCutsSpec)

/-- 'undercroftlaw13.IpEchoes', WHERE WHAT IT READS IS OF BULK AT MOST 1048576: true; the input reads as it did. -/
def ipEchoesUptoRow : OpenClaim := { program := "ytgdajplloamjcaa", sum := "ae0d7e7a83262f95a12a7760cc9fe5ef664e6a9d16775a392aa4e789f943b06f", func := "undercroft/undercroftlaw13.IpEchoes", spec := "ipEchoes", apart := false, narrowed := true }
def IpEchoesUptoSaid : Prop := ipEchoesUptoRow.holds Try.pinned (OpenSpec.upto ipEchoesSpec)

/-- 'undercroftlaw13.IpBack', WHERE WHAT IT READS IS OF BULK AT MOST 1048576: true; the input reads as it did. -/
def ipBackUptoRow : OpenClaim := { program := "ytgdajplloamjcaa", sum := "ae0d7e7a83262f95a12a7760cc9fe5ef664e6a9d16775a392aa4e789f943b06f", func := "undercroft/undercroftlaw13.IpBack", spec := "ipBack", apart := false, narrowed := true }
def IpBackUptoSaid : Prop := ipBackUptoRow.holds Try.pinned (OpenSpec.upto ipBackSpec)

end Rows
end Go.Proofs.Ytgdajplloamjcaa
