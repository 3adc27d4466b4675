/-
  NARROWER THAN 'FOR EVERY INPUT', by the rows' own cells (each row's printed sentence says how): NumReads: laid · NumWrites: laid · NumSums: laid · NumBack: laid · NumCuts: laid · NumCheck: laid.
  DERIVED. THE GIVEN ROWS OF THIS SEAT. 6 by the template 'for every input the law returns true; each argument reads behind the call as it read before'; 0 by the template 'total and deterministic' (their statements: YtkmljnjikkmdhaaDoorTotals.lean).
  GIVEN WITH THE SEED: the statements are not yours to turn. If you find one false, say at which input.
  Laid BY PROGRAM, IN A SANDBOX (cutbox-rows.mjs): the forced cells as the released guide's own fill.sh prints them over the translation 980d63c6bad373a8… (all of the seat's roots in one cut). By AI agents, Wed Nov 11 2026. No macro, syntax, notation, axiom, sorry.
-/
import Derived.Test.YtkmljnjikkmdhaaDoorChecked
import GoSem.Claim
import GoSem.ClaimJoined
import GoSem.ClaimMapViews
import Derived.JoinedTies
import Derived.KernelRfl
namespace Go.Proofs.YtkmljnjikkmdhaaDoor
/- THE CELL 'sum', in the pinned program and in every row, IS THE sha256 OF THE DUMP (.gsa) THAT YtkmljnjikkmdhaaDoorProg.lean LOADS. Nothing in Lean hashes anything: it is a label: what it is worth is what the hold of that sum in a sandbox is worth. -/
noncomputable def Tryd.pinned : Pinned := { name := "ytkmljnjikkmdhaadoor", sum := "980d63c6bad373a8795c129e6e9349a6681414df0f199a881b07a6f69c58fa20", checked := Tryd.checked }
namespace Rows
def none {H : Type} : Left H := { results := [], args := [] }

/- WHAT THE LISTED PACKAGE-LEVEL VARIABLES READ AS WHEN THE CALL BEGINS. Each datum BY PROGRAM (the guide's laid-datum.mjs) off the statement by which the dump's own 'gosem.cut.vars' lays the variable. In a bare row this is a premise. The card (YtkmljnjikkmdhaaDoorCards.lean) ties it to the program's text. -/
def laid_undercroft_num_crcOfHalf {H : Type} : DataW H := .agg [.lit (.int .u32 0), .lit (.int .u32 274646895), .lit (.int .u32 549293790), .lit (.int .u32 820201905), .lit (.int .u32 1098587580), .lit (.int .u32 1361435347), .lit (.int .u32 1640403810), .lit (.int .u32 1905808397), .lit (.int .u32 2197175160), .lit (.int .u32 2460548119), .lit (.int .u32 2722870694), .lit (.int .u32 2987750089), .lit (.int .u32 3280807620), .lit (.int .u32 3553878443), .lit (.int .u32 3811616794), .lit (.int .u32 4084100981)]

/-- 'undercroftlaw1.NumReads': WHATEVER THE INPUT: true; the input reads as it did. -/
def numReadsSpec : ChangeSpec := { name := "numReads", fn := fun _ => fun
  | [d1, d2, d3] => { results := [.lit (.bool true)], args := [d1, d2, d3] }
  | _ => none }
def numReadsRow : OpenClaim := { program := "ytkmljnjikkmdhaadoor", sum := "980d63c6bad373a8795c129e6e9349a6681414df0f199a881b07a6f69c58fa20", func := "undercroft/undercroftlaw1.NumReads", spec := "numReads", named := ["undercroft/num.crcOfHalf"], apart := false, laid := [("undercroft/num.crcOfHalf", laid_undercroft_num_crcOfHalf)] }
def NumReadsSaid : Prop := numReadsRow.holds Tryd.pinned (OpenSpec.ofChange numReadsSpec)

/-- ITS FALSE NEIGHBOUR: 'it returns false'. Refute it at one input. -/
def numReadsWrong : ChangeSpec := { name := "numReads", fn := fun _ => fun
  | [d1, d2, d3] => { results := [.lit (.bool false)], args := [d1, d2, d3] }
  | _ => none }
def NumReadsWrongFalsely : Prop := numReadsRow.holds Tryd.pinned (OpenSpec.ofChange numReadsWrong)

/-- 'undercroftlaw1.NumWrites': WHATEVER THE INPUT: true; the input reads as it did. -/
def numWritesSpec : ChangeSpec := { name := "numWrites", fn := fun _ => fun
  | [d1, d2, d3] => { results := [.lit (.bool true)], args := [d1, d2, d3] }
  | _ => none }
def numWritesRow : OpenClaim := { program := "ytkmljnjikkmdhaadoor", sum := "980d63c6bad373a8795c129e6e9349a6681414df0f199a881b07a6f69c58fa20", func := "undercroft/undercroftlaw1.NumWrites", spec := "numWrites", named := ["undercroft/num.crcOfHalf"], apart := false, laid := [("undercroft/num.crcOfHalf", laid_undercroft_num_crcOfHalf)] }
def NumWritesSaid : Prop := numWritesRow.holds Tryd.pinned (OpenSpec.ofChange numWritesSpec)

/-- ITS FALSE NEIGHBOUR: 'it returns false'. Refute it at one input. -/
def numWritesWrong : ChangeSpec := { name := "numWrites", fn := fun _ => fun
  | [d1, d2, d3] => { results := [.lit (.bool false)], args := [d1, d2, d3] }
  | _ => none }
def NumWritesWrongFalsely : Prop := numWritesRow.holds Tryd.pinned (OpenSpec.ofChange numWritesWrong)

/-- 'undercroftlaw1.NumSums': WHATEVER THE INPUT: true; the input reads as it did. -/
def numSumsSpec : ChangeSpec := { name := "numSums", fn := fun _ => fun
  | [d] => { results := [.lit (.bool true)], args := [d] }
  | _ => none }
def numSumsRow : OpenClaim := { program := "ytkmljnjikkmdhaadoor", sum := "980d63c6bad373a8795c129e6e9349a6681414df0f199a881b07a6f69c58fa20", func := "undercroft/undercroftlaw1.NumSums", spec := "numSums", named := ["undercroft/num.crcOfHalf"], apart := false, laid := [("undercroft/num.crcOfHalf", laid_undercroft_num_crcOfHalf)] }
def NumSumsSaid : Prop := numSumsRow.holds Tryd.pinned (OpenSpec.ofChange numSumsSpec)

/-- ITS FALSE NEIGHBOUR: 'it returns false'. Refute it at one input. -/
def numSumsWrong : ChangeSpec := { name := "numSums", fn := fun _ => fun
  | [d] => { results := [.lit (.bool false)], args := [d] }
  | _ => none }
def NumSumsWrongFalsely : Prop := numSumsRow.holds Tryd.pinned (OpenSpec.ofChange numSumsWrong)

/-- 'undercroftlaw1.NumBack': WHATEVER THE INPUT: true; the input reads as it did. -/
def numBackSpec : ChangeSpec := { name := "numBack", fn := fun _ => fun
  | [d1, d2, d3] => { results := [.lit (.bool true)], args := [d1, d2, d3] }
  | _ => none }
def numBackRow : OpenClaim := { program := "ytkmljnjikkmdhaadoor", sum := "980d63c6bad373a8795c129e6e9349a6681414df0f199a881b07a6f69c58fa20", func := "undercroft/undercroftlaw1.NumBack", spec := "numBack", named := ["undercroft/num.crcOfHalf"], apart := false, laid := [("undercroft/num.crcOfHalf", laid_undercroft_num_crcOfHalf)] }
def NumBackSaid : Prop := numBackRow.holds Tryd.pinned (OpenSpec.ofChange numBackSpec)

/-- ITS FALSE NEIGHBOUR: 'it returns false'. Refute it at one input. -/
def numBackWrong : ChangeSpec := { name := "numBack", fn := fun _ => fun
  | [d1, d2, d3] => { results := [.lit (.bool false)], args := [d1, d2, d3] }
  | _ => none }
def NumBackWrongFalsely : Prop := numBackRow.holds Tryd.pinned (OpenSpec.ofChange numBackWrong)

/-- 'undercroftlaw1.NumCuts': WHATEVER THE INPUT: true; the input reads as it did. -/
def numCutsSpec : ChangeSpec := { name := "numCuts", fn := fun _ => fun
  | [d1, d2, d3] => { results := [.lit (.bool true)], args := [d1, d2, d3] }
  | _ => none }
def numCutsRow : OpenClaim := { program := "ytkmljnjikkmdhaadoor", sum := "980d63c6bad373a8795c129e6e9349a6681414df0f199a881b07a6f69c58fa20", func := "undercroft/undercroftlaw1.NumCuts", spec := "numCuts", named := ["undercroft/num.crcOfHalf"], apart := false, laid := [("undercroft/num.crcOfHalf", laid_undercroft_num_crcOfHalf)] }
def NumCutsSaid : Prop := numCutsRow.holds Tryd.pinned (OpenSpec.ofChange numCutsSpec)

/-- ITS FALSE NEIGHBOUR: 'it returns false'. Refute it at one input. -/
def numCutsWrong : ChangeSpec := { name := "numCuts", fn := fun _ => fun
  | [d1, d2, d3] => { results := [.lit (.bool false)], args := [d1, d2, d3] }
  | _ => none }
def NumCutsWrongFalsely : Prop := numCutsRow.holds Tryd.pinned (OpenSpec.ofChange numCutsWrong)

/-- 'undercroftlaw1.NumCheck': WHATEVER THE INPUT: true; the input reads as it did. -/
def numCheckSpec : ChangeSpec := { name := "numCheck", fn := fun _ => fun
  | [d1, d2, d3] => { results := [.lit (.bool true)], args := [d1, d2, d3] }
  | _ => none }
def numCheckRow : OpenClaim := { program := "ytkmljnjikkmdhaadoor", sum := "980d63c6bad373a8795c129e6e9349a6681414df0f199a881b07a6f69c58fa20", func := "undercroft/undercroftlaw1.NumCheck", spec := "numCheck", named := ["undercroft/num.crcOfHalf"], apart := false, laid := [("undercroft/num.crcOfHalf", laid_undercroft_num_crcOfHalf)] }
def NumCheckSaid : Prop := numCheckRow.holds Tryd.pinned (OpenSpec.ofChange numCheckSpec)

/-- ITS FALSE NEIGHBOUR: 'it returns false'. Refute it at one input. -/
def numCheckWrong : ChangeSpec := { name := "numCheck", fn := fun _ => fun
  | [d1, d2, d3] => { results := [.lit (.bool false)], args := [d1, d2, d3] }
  | _ => none }
def NumCheckWrongFalsely : Prop := numCheckRow.holds Tryd.pinned (OpenSpec.ofChange numCheckWrong)

/- THE SECOND FORM. 'bulk': how many values and letters a reading holds, each counted each time it is reached (what is shared counts as often as it is met; a slice's spare places count too). A statement '..UptoSaid' is the law's where the arguments, and the package variables that the reading takes, are together of bulk at most 1048576: NARROWER than '..Said'. Prove '..Said' where nothing that the law and all that it calls make is longer than what came in: it says more and counts as full. Else prove '..UptoSaid'. A law counts once. -/
mutual
def uptoBulk {H : Type} : DataW H → Nat
  | .lit (.string bytes) => bytes.length + 1
  | .lit _ => 1
  | .nil => 1
  | .ptr d => uptoBulk d + 1
  | .slice elems spare => uptoBulkAll elems + uptoBulkAll spare + 1
  | .agg parts => uptoBulkAll parts + 1
  | .iface _ d => uptoBulk d + 1
  | .map entries => uptoBulkEntries entries + 1
  | .held _ => 1
def uptoBulkAll {H : Type} : List (DataW H) → Nat
  | [] => 0
  | d :: r => uptoBulk d + uptoBulkAll r
def uptoBulkEntries {H : Type} : List (Lit × DataW H) → Nat
  | [] => 0
  | x :: r => uptoBulkEntry x + uptoBulkEntries r
def uptoBulkEntry {H : Type} : Lit × DataW H → Nat
  | (.string bytes, d) => bytes.length + uptoBulk d + 1
  | (_, d) => uptoBulk d + 1
 end
def uptoSmall : (H : Type) → List (DataW H) → Bool := fun _ ds => decide (uptoBulkAll ds ≤ 1048576)
def OpenSpec.upto (s : _root_.Go.ChangeSpec) : _root_.Go.OpenSpec := { _root_.Go.OpenSpec.ofChange s with cond := some uptoSmall }

/-- 'undercroftlaw1.NumReads', WHERE WHAT IT READS IS OF BULK AT MOST 1048576: true; the input reads as it did. -/
def numReadsUptoRow : OpenClaim := { program := "ytkmljnjikkmdhaadoor", sum := "980d63c6bad373a8795c129e6e9349a6681414df0f199a881b07a6f69c58fa20", func := "undercroft/undercroftlaw1.NumReads", spec := "numReads", named := ["undercroft/num.crcOfHalf"], apart := false, laid := [("undercroft/num.crcOfHalf", laid_undercroft_num_crcOfHalf)], narrowed := true }
def NumReadsUptoSaid : Prop := numReadsUptoRow.holds Tryd.pinned (OpenSpec.upto numReadsSpec)

/-- 'undercroftlaw1.NumWrites', WHERE WHAT IT READS IS OF BULK AT MOST 1048576: true; the input reads as it did. -/
def numWritesUptoRow : OpenClaim := { program := "ytkmljnjikkmdhaadoor", sum := "980d63c6bad373a8795c129e6e9349a6681414df0f199a881b07a6f69c58fa20", func := "undercroft/undercroftlaw1.NumWrites", spec := "numWrites", named := ["undercroft/num.crcOfHalf"], apart := false, laid := [("undercroft/num.crcOfHalf", laid_undercroft_num_crcOfHalf)], narrowed := true }
def NumWritesUptoSaid : Prop := numWritesUptoRow.holds Tryd.pinned (OpenSpec.upto numWritesSpec)

/-- 'undercroftlaw1.NumSums', WHERE WHAT IT READS IS OF BULK AT MOST 1048576: true; the input reads as it did. -/
def numSumsUptoRow : OpenClaim := { program := "ytkmljnjikkmdhaadoor", sum := "980d63c6bad373a8795c129e6e9349a6681414df0f199a881b07a6f69c58fa20", func := "undercroft/undercroftlaw1.NumSums", spec := "numSums", named := ["undercroft/num.crcOfHalf"], apart := false, laid := [("undercroft/num.crcOfHalf", laid_undercroft_num_crcOfHalf)], narrowed := true }
def NumSumsUptoSaid : Prop := numSumsUptoRow.holds Tryd.pinned (OpenSpec.upto numSumsSpec)

/-- 'undercroftlaw1.NumBack', WHERE WHAT IT READS IS OF BULK AT MOST 1048576: true; the input reads as it did. -/
def numBackUptoRow : OpenClaim := { program := "ytkmljnjikkmdhaadoor", sum := "980d63c6bad373a8795c129e6e9349a6681414df0f199a881b07a6f69c58fa20", func := "undercroft/undercroftlaw1.NumBack", spec := "numBack", named := ["undercroft/num.crcOfHalf"], apart := false, laid := [("undercroft/num.crcOfHalf", laid_undercroft_num_crcOfHalf)], narrowed := true }
def NumBackUptoSaid : Prop := numBackUptoRow.holds Tryd.pinned (OpenSpec.upto numBackSpec)

/-- 'undercroftlaw1.NumCuts', WHERE WHAT IT READS IS OF BULK AT MOST 1048576: true; the input reads as it did. -/
def numCutsUptoRow : OpenClaim := { program := "ytkmljnjikkmdhaadoor", sum := "980d63c6bad373a8795c129e6e9349a6681414df0f199a881b07a6f69c58fa20", func := "undercroft/undercroftlaw1.NumCuts", spec := "numCuts", named := ["undercroft/num.crcOfHalf"], apart := false, laid := [("undercroft/num.crcOfHalf", laid_undercroft_num_crcOfHalf)], narrowed := true }
def NumCutsUptoSaid : Prop := numCutsUptoRow.holds Tryd.pinned (OpenSpec.upto numCutsSpec)

/-- 'undercroftlaw1.NumCheck', WHERE WHAT IT READS IS OF BULK AT MOST 1048576: true; the input reads as it did. -/
def numCheckUptoRow : OpenClaim := { program := "ytkmljnjikkmdhaadoor", sum := "980d63c6bad373a8795c129e6e9349a6681414df0f199a881b07a6f69c58fa20", func := "undercroft/undercroftlaw1.NumCheck", spec := "numCheck", named := ["undercroft/num.crcOfHalf"], apart := false, laid := [("undercroft/num.crcOfHalf", laid_undercroft_num_crcOfHalf)], narrowed := true }
def NumCheckUptoSaid : Prop := numCheckUptoRow.holds Tryd.pinned (OpenSpec.upto numCheckSpec)

end Rows
end Go.Proofs.YtkmljnjikkmdhaaDoor
