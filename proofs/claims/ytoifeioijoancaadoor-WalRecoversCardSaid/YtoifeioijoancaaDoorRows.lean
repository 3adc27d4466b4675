/-
  NARROWER THAN 'FOR EVERY INPUT', by the rows' own cells (each row's printed sentence says how): WalRecords: laid · WalRecovers: laid · WalPlays: laid · WalOrder: laid · WalFinds: laid · WalCrashes: laid.
  DERIVED. THE GIVEN ROWS OF THIS SEAT. 6 by the template 'for every input the law returns true; each argument reads behind the call as it read before'; 0 by the template 'total and deterministic' (their statements: YtoifeioijoancaaDoorTotals.lean).
  GIVEN WITH THE SEED: the statements are not yours to turn. If you find one false, say at which input.
  Laid BY PROGRAM, IN A SANDBOX (cutbox-rows.mjs): the forced cells as the released guide's own fill.sh prints them over the translation 9cf5b3737acf7cc5… (all of the seat's roots in one cut). By AI agents, Wed Nov 11 2026. No macro, syntax, notation, axiom, sorry.
-/
import Derived.Test.YtoifeioijoancaaDoorChecked
import GoSem.Claim
import GoSem.ClaimJoined
import GoSem.ClaimMapViews
import Derived.JoinedTies
import Derived.KernelRfl
namespace Go.Proofs.YtoifeioijoancaaDoor
/- THE CELL 'sum', in the pinned program and in every row, IS THE sha256 OF THE DUMP (.gsa) THAT YtoifeioijoancaaDoorProg.lean LOADS. Nothing in Lean hashes anything: it is a label: what it is worth is what the hold of that sum in a sandbox is worth. -/
noncomputable def Tryd.pinned : Pinned := { name := "ytoifeioijoancaadoor", sum := "9cf5b3737acf7cc5cad07fc99b7e5fd11c11301d414cf44546ea2e63ecbf06df", checked := Tryd.checked }
namespace Rows
def none {H : Type} : Left H := { results := [], args := [] }

/- WHAT THE LISTED PACKAGE-LEVEL VARIABLES READ AS WHEN THE CALL BEGINS. Each datum BY PROGRAM (the guide's laid-datum.mjs) off the statement by which the dump's own 'gosem.cut.vars' lays the variable. In a bare row this is a premise. The card (YtoifeioijoancaaDoorCards.lean) ties it to the program's text. -/
def laid_undercroft_num_crcOfHalf {H : Type} : DataW H := .agg [.lit (.int .u32 0), .lit (.int .u32 274646895), .lit (.int .u32 549293790), .lit (.int .u32 820201905), .lit (.int .u32 1098587580), .lit (.int .u32 1361435347), .lit (.int .u32 1640403810), .lit (.int .u32 1905808397), .lit (.int .u32 2197175160), .lit (.int .u32 2460548119), .lit (.int .u32 2722870694), .lit (.int .u32 2987750089), .lit (.int .u32 3280807620), .lit (.int .u32 3553878443), .lit (.int .u32 3811616794), .lit (.int .u32 4084100981)]

/-- 'undercroftlaw8.WalRecords': WHATEVER THE INPUT: true; the input reads as it did. -/
def walRecordsSpec : ChangeSpec := { name := "walRecords", fn := fun _ => fun
  | [d1, d2] => { results := [.lit (.bool true)], args := [d1, d2] }
  | _ => none }
def walRecordsRow : OpenClaim := { program := "ytoifeioijoancaadoor", sum := "9cf5b3737acf7cc5cad07fc99b7e5fd11c11301d414cf44546ea2e63ecbf06df", func := "undercroft/undercroftlaw8.WalRecords", spec := "walRecords", named := ["undercroft/num.crcOfHalf"], apart := false, laid := [("undercroft/num.crcOfHalf", laid_undercroft_num_crcOfHalf)] }
def WalRecordsSaid : Prop := walRecordsRow.holds Tryd.pinned (OpenSpec.ofChange walRecordsSpec)

/-- ITS FALSE NEIGHBOUR: 'it returns false'. Refute it at one input. -/
def walRecordsWrong : ChangeSpec := { name := "walRecords", fn := fun _ => fun
  | [d1, d2] => { results := [.lit (.bool false)], args := [d1, d2] }
  | _ => none }
def WalRecordsWrongFalsely : Prop := walRecordsRow.holds Tryd.pinned (OpenSpec.ofChange walRecordsWrong)

/-- 'undercroftlaw8.WalRecovers': WHATEVER THE INPUT: true; the input reads as it did. -/
def walRecoversSpec : ChangeSpec := { name := "walRecovers", fn := fun _ => fun
  | [d1, d2, d3, d4, d5] => { results := [.lit (.bool true)], args := [d1, d2, d3, d4, d5] }
  | _ => none }
def walRecoversRow : OpenClaim := { program := "ytoifeioijoancaadoor", sum := "9cf5b3737acf7cc5cad07fc99b7e5fd11c11301d414cf44546ea2e63ecbf06df", func := "undercroft/undercroftlaw8.WalRecovers", spec := "walRecovers", named := ["undercroft/num.crcOfHalf"], apart := false, laid := [("undercroft/num.crcOfHalf", laid_undercroft_num_crcOfHalf)] }
def WalRecoversSaid : Prop := walRecoversRow.holds Tryd.pinned (OpenSpec.ofChange walRecoversSpec)

/-- ITS FALSE NEIGHBOUR: 'it returns false'. Refute it at one input. -/
def walRecoversWrong : ChangeSpec := { name := "walRecovers", fn := fun _ => fun
  | [d1, d2, d3, d4, d5] => { results := [.lit (.bool false)], args := [d1, d2, d3, d4, d5] }
  | _ => none }
def WalRecoversWrongFalsely : Prop := walRecoversRow.holds Tryd.pinned (OpenSpec.ofChange walRecoversWrong)

/-- 'undercroftlaw8.WalPlays': WHATEVER THE INPUT: true; the input reads as it did. -/
def walPlaysSpec : ChangeSpec := { name := "walPlays", fn := fun _ => fun
  | [d1, d2, d3] => { results := [.lit (.bool true)], args := [d1, d2, d3] }
  | _ => none }
def walPlaysRow : OpenClaim := { program := "ytoifeioijoancaadoor", sum := "9cf5b3737acf7cc5cad07fc99b7e5fd11c11301d414cf44546ea2e63ecbf06df", func := "undercroft/undercroftlaw8.WalPlays", spec := "walPlays", unfollowed := true, recurses := true, named := ["undercroft/num.crcOfHalf"], apart := false, laid := [("undercroft/num.crcOfHalf", laid_undercroft_num_crcOfHalf)] }
def WalPlaysSaid : Prop := walPlaysRow.holds Tryd.pinned (OpenSpec.ofChange walPlaysSpec)

/-- ITS FALSE NEIGHBOUR: 'it returns false'. Refute it at one input. -/
def walPlaysWrong : ChangeSpec := { name := "walPlays", fn := fun _ => fun
  | [d1, d2, d3] => { results := [.lit (.bool false)], args := [d1, d2, d3] }
  | _ => none }
def WalPlaysWrongFalsely : Prop := walPlaysRow.holds Tryd.pinned (OpenSpec.ofChange walPlaysWrong)

/-- 'undercroftlaw8.WalOrder': WHATEVER THE INPUT: true; the input reads as it did. -/
def walOrderSpec : ChangeSpec := { name := "walOrder", fn := fun _ => fun
  | [d1, d2] => { results := [.lit (.bool true)], args := [d1, d2] }
  | _ => none }
def walOrderRow : OpenClaim := { program := "ytoifeioijoancaadoor", sum := "9cf5b3737acf7cc5cad07fc99b7e5fd11c11301d414cf44546ea2e63ecbf06df", func := "undercroft/undercroftlaw8.WalOrder", spec := "walOrder", unfollowed := true, recurses := true, named := ["undercroft/num.crcOfHalf"], apart := false, laid := [("undercroft/num.crcOfHalf", laid_undercroft_num_crcOfHalf)] }
def WalOrderSaid : Prop := walOrderRow.holds Tryd.pinned (OpenSpec.ofChange walOrderSpec)

/-- ITS FALSE NEIGHBOUR: 'it returns false'. Refute it at one input. -/
def walOrderWrong : ChangeSpec := { name := "walOrder", fn := fun _ => fun
  | [d1, d2] => { results := [.lit (.bool false)], args := [d1, d2] }
  | _ => none }
def WalOrderWrongFalsely : Prop := walOrderRow.holds Tryd.pinned (OpenSpec.ofChange walOrderWrong)

/-- 'undercroftlaw8.WalFinds': WHATEVER THE INPUT: true; the input reads as it did. -/
def walFindsSpec : ChangeSpec := { name := "walFinds", fn := fun _ => fun
  | [d1, d2] => { results := [.lit (.bool true)], args := [d1, d2] }
  | _ => none }
def walFindsRow : OpenClaim := { program := "ytoifeioijoancaadoor", sum := "9cf5b3737acf7cc5cad07fc99b7e5fd11c11301d414cf44546ea2e63ecbf06df", func := "undercroft/undercroftlaw8.WalFinds", spec := "walFinds", unfollowed := true, recurses := true, named := ["undercroft/num.crcOfHalf"], apart := false, laid := [("undercroft/num.crcOfHalf", laid_undercroft_num_crcOfHalf)] }
def WalFindsSaid : Prop := walFindsRow.holds Tryd.pinned (OpenSpec.ofChange walFindsSpec)

/-- ITS FALSE NEIGHBOUR: 'it returns false'. Refute it at one input. -/
def walFindsWrong : ChangeSpec := { name := "walFinds", fn := fun _ => fun
  | [d1, d2] => { results := [.lit (.bool false)], args := [d1, d2] }
  | _ => none }
def WalFindsWrongFalsely : Prop := walFindsRow.holds Tryd.pinned (OpenSpec.ofChange walFindsWrong)

/-- 'undercroftlaw8.WalCrashes': WHATEVER THE INPUT: true; the input reads as it did. -/
def walCrashesSpec : ChangeSpec := { name := "walCrashes", fn := fun _ => fun
  | [d1, d2, d3, d4] => { results := [.lit (.bool true)], args := [d1, d2, d3, d4] }
  | _ => none }
def walCrashesRow : OpenClaim := { program := "ytoifeioijoancaadoor", sum := "9cf5b3737acf7cc5cad07fc99b7e5fd11c11301d414cf44546ea2e63ecbf06df", func := "undercroft/undercroftlaw8.WalCrashes", spec := "walCrashes", unfollowed := true, recurses := true, named := ["undercroft/num.crcOfHalf"], apart := false, laid := [("undercroft/num.crcOfHalf", laid_undercroft_num_crcOfHalf)] }
def WalCrashesSaid : Prop := walCrashesRow.holds Tryd.pinned (OpenSpec.ofChange walCrashesSpec)

/-- ITS FALSE NEIGHBOUR: 'it returns false'. Refute it at one input. -/
def walCrashesWrong : ChangeSpec := { name := "walCrashes", fn := fun _ => fun
  | [d1, d2, d3, d4] => { results := [.lit (.bool false)], args := [d1, d2, d3, d4] }
  | _ => none }
def WalCrashesWrongFalsely : Prop := walCrashesRow.holds Tryd.pinned (OpenSpec.ofChange walCrashesWrong)

/- THE SECOND FORM. 'bulk': how many values and letters a reading holds, each counted each time it is reached (what is shared counts as often as it is met; a slice's spare places count too). A statement '..UptoSaid' is the law's where the arguments, and the package variables that the reading takes, are together of bulk at most 1048576: NARROWER than '..Said'. Prove '..Said' where nothing that the law and all that it calls make is longer than what came in: it says more and counts as full. Else prove '..UptoSaid'. A law counts once. -/
mutual
def uptoBulk {H : Type} : DataW H → Nat
  | .lit (.string bytes) => bytes.length + 1
  | .lit _ => 1
  | .nil => 1
  | .ptr d => uptoBulk d + 1
  | .slice elems spare => uptoBulkAll elems + uptoBulkAll spare + 1
  | .agg parts => uptoBulkAll parts + 1
  | .iface _ d => uptoBulk d + 1
  | .map entries => uptoBulkEntries entries + 1
  | .held _ => 1
def uptoBulkAll {H : Type} : List (DataW H) → Nat
  | [] => 0
  | d :: r => uptoBulk d + uptoBulkAll r
def uptoBulkEntries {H : Type} : List (Lit × DataW H) → Nat
  | [] => 0
  | x :: r => uptoBulkEntry x + uptoBulkEntries r
def uptoBulkEntry {H : Type} : Lit × DataW H → Nat
  | (.string bytes, d) => bytes.length + uptoBulk d + 1
  | (_, d) => uptoBulk d + 1
 end
def uptoSmall : (H : Type) → List (DataW H) → Bool := fun _ ds => decide (uptoBulkAll ds ≤ 1048576)
def OpenSpec.upto (s : _root_.Go.ChangeSpec) : _root_.Go.OpenSpec := { _root_.Go.OpenSpec.ofChange s with cond := some uptoSmall }

/-- 'undercroftlaw8.WalRecords', WHERE WHAT IT READS IS OF BULK AT MOST 1048576: true; the input reads as it did. -/
def walRecordsUptoRow : OpenClaim := { program := "ytoifeioijoancaadoor", sum := "9cf5b3737acf7cc5cad07fc99b7e5fd11c11301d414cf44546ea2e63ecbf06df", func := "undercroft/undercroftlaw8.WalRecords", spec := "walRecords", named := ["undercroft/num.crcOfHalf"], apart := false, laid := [("undercroft/num.crcOfHalf", laid_undercroft_num_crcOfHalf)], narrowed := true }
def WalRecordsUptoSaid : Prop := walRecordsUptoRow.holds Tryd.pinned (OpenSpec.upto walRecordsSpec)

/-- 'undercroftlaw8.WalRecovers', WHERE WHAT IT READS IS OF BULK AT MOST 1048576: true; the input reads as it did. -/
def walRecoversUptoRow : OpenClaim := { program := "ytoifeioijoancaadoor", sum := "9cf5b3737acf7cc5cad07fc99b7e5fd11c11301d414cf44546ea2e63ecbf06df", func := "undercroft/undercroftlaw8.WalRecovers", spec := "walRecovers", named := ["undercroft/num.crcOfHalf"], apart := false, laid := [("undercroft/num.crcOfHalf", laid_undercroft_num_crcOfHalf)], narrowed := true }
def WalRecoversUptoSaid : Prop := walRecoversUptoRow.holds Tryd.pinned (OpenSpec.upto walRecoversSpec)

/-- 'undercroftlaw8.WalPlays', WHERE WHAT IT READS IS OF BULK AT MOST 1048576: true; the input reads as it did. -/
def walPlaysUptoRow : OpenClaim := { program := "ytoifeioijoancaadoor", sum := "9cf5b3737acf7cc5cad07fc99b7e5fd11c11301d414cf44546ea2e63ecbf06df", func := "undercroft/undercroftlaw8.WalPlays", spec := "walPlays", unfollowed := true, recurses := true, named := ["undercroft/num.crcOfHalf"], apart := false, laid := [("undercroft/num.crcOfHalf", laid_undercroft_num_crcOfHalf)], narrowed := true }
def WalPlaysUptoSaid : Prop := walPlaysUptoRow.holds Tryd.pinned (OpenSpec.upto walPlaysSpec)

/-- 'undercroftlaw8.WalOrder', WHERE WHAT IT READS IS OF BULK AT MOST 1048576: true; the input reads as it did. -/
def walOrderUptoRow : OpenClaim := { program := "ytoifeioijoancaadoor", sum := "9cf5b3737acf7cc5cad07fc99b7e5fd11c11301d414cf44546ea2e63ecbf06df", func := "undercroft/undercroftlaw8.WalOrder", spec := "walOrder", unfollowed := true, recurses := true, named := ["undercroft/num.crcOfHalf"], apart := false, laid := [("undercroft/num.crcOfHalf", laid_undercroft_num_crcOfHalf)], narrowed := true }
def WalOrderUptoSaid : Prop := walOrderUptoRow.holds Tryd.pinned (OpenSpec.upto walOrderSpec)

/-- 'undercroftlaw8.WalFinds', WHERE WHAT IT READS IS OF BULK AT MOST 1048576: true; the input reads as it did. -/
def walFindsUptoRow : OpenClaim := { program := "ytoifeioijoancaadoor", sum := "9cf5b3737acf7cc5cad07fc99b7e5fd11c11301d414cf44546ea2e63ecbf06df", func := "undercroft/undercroftlaw8.WalFinds", spec := "walFinds", unfollowed := true, recurses := true, named := ["undercroft/num.crcOfHalf"], apart := false, laid := [("undercroft/num.crcOfHalf", laid_undercroft_num_crcOfHalf)], narrowed := true }
def WalFindsUptoSaid : Prop := walFindsUptoRow.holds Tryd.pinned (OpenSpec.upto walFindsSpec)

/-- 'undercroftlaw8.WalCrashes', WHERE WHAT IT READS IS OF BULK AT MOST 1048576: true; the input reads as it did. -/
def walCrashesUptoRow : OpenClaim := { program := "ytoifeioijoancaadoor", sum := "9cf5b3737acf7cc5cad07fc99b7e5fd11c11301d414cf44546ea2e63ecbf06df", func := "undercroft/undercroftlaw8.WalCrashes", spec := "walCrashes", unfollowed := true, recurses := true, named := ["undercroft/num.crcOfHalf"], apart := false, laid := [("undercroft/num.crcOfHalf", laid_undercroft_num_crcOfHalf)], narrowed := true }
def WalCrashesUptoSaid : Prop := walCrashesUptoRow.holds Tryd.pinned (OpenSpec.upto walCrashesSpec)

end Rows
end Go.Proofs.YtoifeioijoancaaDoor
