/-
  NARROWER THAN 'FOR EVERY INPUT', by the rows' own cells (each row's printed sentence says how): InodeHolds: laid · DirPlays: laid · DirNames: laid · DirKeeps: laid · DirLists: laid · DirAbove: laid.
  DERIVED. THE GIVEN ROWS OF THIS SEAT. 6 by the template 'for every input the law returns true; each argument reads behind the call as it read before'; 0 by the template 'total and deterministic' (their statements: YtldlnidbeiggoaaGreatDoorTotals.lean).
  GIVEN WITH THE SEED: the statements are not yours to turn. If you find one false, say at which input.
  Laid BY PROGRAM, IN A SANDBOX (cutbox-rows.mjs): the forced cells as the released guide's own fill.sh prints them over the translation 2bec2f1e2982abfb… (all of the seat's roots in one cut). By AI agents, Wed Nov 11 2026. No macro, syntax, notation, axiom, sorry.
-/
import Derived.Test.YtldlnidbeiggoaaGreatDoorChecked
import GoSem.Claim
import GoSem.ClaimJoined
import GoSem.ClaimMapViews
import Derived.JoinedTies
import Derived.KernelRfl
namespace Go.Proofs.YtldlnidbeiggoaaGreatDoor
/- THE CELL 'sum', in the pinned program and in every row, IS THE sha256 OF THE DUMP (.gsa) THAT YtldlnidbeiggoaaGreatDoorProg.lean LOADS. Nothing in Lean hashes anything: it is a label: what it is worth is what the hold of that sum in a sandbox is worth. -/
noncomputable def Tryz.pinned : Pinned := { name := "ytldlnidbeiggoaagreatdoor", sum := "2bec2f1e2982abfb302f3328bf48dd061deee5055a10cec7bde4f92c6fc53895", checked := Tryz.checked }
namespace Rows
def none {H : Type} : Left H := { results := [], args := [] }

/- WHAT THE LISTED PACKAGE-LEVEL VARIABLES READ AS WHEN THE CALL BEGINS. Each datum BY PROGRAM (the guide's laid-datum.mjs) off the statement by which the dump's own 'gosem.cut.vars' lays the variable. In a bare row this is a premise. The card (YtldlnidbeiggoaaGreatDoorCards.lean) ties it to the program's text. -/
def laid_errors_errorType {H : Type} : DataW H := .iface "internal/reflectlite.rtype" (.agg [.ptr (.lit (.string [101, 114, 114, 111, 114]))])
def laid_undercroft_dir_errEnough {H : Type} : DataW H := .iface "*errors.errorString" (.ptr (.agg [.lit (.string [101, 110, 111, 117, 103, 104])]))

/-- 'undercroftlaw10.InodeHolds': WHATEVER THE INPUT: true; the input reads as it did. -/
def inodeHoldsSpec : ChangeSpec := { name := "inodeHolds", fn := fun _ => fun
  | [d] => { results := [.lit (.bool true)], args := [d] }
  | _ => none }
def inodeHoldsRow : OpenClaim := { program := "ytldlnidbeiggoaagreatdoor", sum := "2bec2f1e2982abfb302f3328bf48dd061deee5055a10cec7bde4f92c6fc53895", func := "undercroft/undercroftlaw10.InodeHolds", spec := "inodeHolds", inPlace := ["internal/reflectlite.ValueOf", "(internal/reflectlite.Value).Type", "(internal/reflectlite.Value).IsNil", "internal/reflectlite.TypeOf", "(internal/reflectlite.Value).Elem", "(internal/reflectlite.Value).Set"], unfollowed := true, recurses := true, named := ["errors.errorType"], apart := false, laid := [("errors.errorType", laid_errors_errorType)] }
def InodeHoldsSaid : Prop := inodeHoldsRow.holds Tryz.pinned (OpenSpec.ofChange inodeHoldsSpec)

/-- ITS FALSE NEIGHBOUR: 'it returns false'. Refute it at one input. -/
def inodeHoldsWrong : ChangeSpec := { name := "inodeHolds", fn := fun _ => fun
  | [d] => { results := [.lit (.bool false)], args := [d] }
  | _ => none }
def InodeHoldsWrongFalsely : Prop := inodeHoldsRow.holds Tryz.pinned (OpenSpec.ofChange inodeHoldsWrong)

/-- 'undercroftlaw11.DirPlays': WHATEVER THE INPUT: true; the input reads as it did. -/
def dirPlaysSpec : ChangeSpec := { name := "dirPlays", fn := fun _ => fun
  | [d] => { results := [.lit (.bool true)], args := [d] }
  | _ => none }
def dirPlaysRow : OpenClaim := { program := "ytldlnidbeiggoaagreatdoor", sum := "2bec2f1e2982abfb302f3328bf48dd061deee5055a10cec7bde4f92c6fc53895", func := "undercroft/undercroftlaw11.DirPlays", spec := "dirPlays", inPlace := ["internal/bytealg.IndexByteString", "internal/reflectlite.ValueOf", "(internal/reflectlite.Value).Type", "(internal/reflectlite.Value).IsNil", "internal/reflectlite.TypeOf", "(internal/reflectlite.Value).Elem", "(internal/reflectlite.Value).Set"], unfollowed := true, recurses := true, named := ["undercroft/dir.errEnough", "errors.errorType"], apart := false, laid := [("errors.errorType", laid_errors_errorType), ("undercroft/dir.errEnough", laid_undercroft_dir_errEnough)] }
def DirPlaysSaid : Prop := dirPlaysRow.holds Tryz.pinned (OpenSpec.ofChange dirPlaysSpec)

/-- ITS FALSE NEIGHBOUR: 'it returns false'. Refute it at one input. -/
def dirPlaysWrong : ChangeSpec := { name := "dirPlays", fn := fun _ => fun
  | [d] => { results := [.lit (.bool false)], args := [d] }
  | _ => none }
def DirPlaysWrongFalsely : Prop := dirPlaysRow.holds Tryz.pinned (OpenSpec.ofChange dirPlaysWrong)

/-- 'undercroftlaw11.DirNames': WHATEVER THE INPUT: true; the input reads as it did. -/
def dirNamesSpec : ChangeSpec := { name := "dirNames", fn := fun _ => fun
  | [d] => { results := [.lit (.bool true)], args := [d] }
  | _ => none }
def dirNamesRow : OpenClaim := { program := "ytldlnidbeiggoaagreatdoor", sum := "2bec2f1e2982abfb302f3328bf48dd061deee5055a10cec7bde4f92c6fc53895", func := "undercroft/undercroftlaw11.DirNames", spec := "dirNames", inPlace := ["internal/bytealg.IndexByteString", "internal/reflectlite.ValueOf", "(internal/reflectlite.Value).Type", "(internal/reflectlite.Value).IsNil", "internal/reflectlite.TypeOf", "(internal/reflectlite.Value).Elem", "(internal/reflectlite.Value).Set"], unfollowed := true, recurses := true, named := ["undercroft/dir.errEnough", "errors.errorType"], apart := false, laid := [("errors.errorType", laid_errors_errorType), ("undercroft/dir.errEnough", laid_undercroft_dir_errEnough)] }
def DirNamesSaid : Prop := dirNamesRow.holds Tryz.pinned (OpenSpec.ofChange dirNamesSpec)

/-- ITS FALSE NEIGHBOUR: 'it returns false'. Refute it at one input. -/
def dirNamesWrong : ChangeSpec := { name := "dirNames", fn := fun _ => fun
  | [d] => { results := [.lit (.bool false)], args := [d] }
  | _ => none }
def DirNamesWrongFalsely : Prop := dirNamesRow.holds Tryz.pinned (OpenSpec.ofChange dirNamesWrong)

/-- 'undercroftlaw11.DirKeeps': WHATEVER THE INPUT: true; the input reads as it did. -/
def dirKeepsSpec : ChangeSpec := { name := "dirKeeps", fn := fun _ => fun
  | [d] => { results := [.lit (.bool true)], args := [d] }
  | _ => none }
def dirKeepsRow : OpenClaim := { program := "ytldlnidbeiggoaagreatdoor", sum := "2bec2f1e2982abfb302f3328bf48dd061deee5055a10cec7bde4f92c6fc53895", func := "undercroft/undercroftlaw11.DirKeeps", spec := "dirKeeps", inPlace := ["internal/bytealg.IndexByteString", "internal/reflectlite.ValueOf", "(internal/reflectlite.Value).Type", "(internal/reflectlite.Value).IsNil", "internal/reflectlite.TypeOf", "(internal/reflectlite.Value).Elem", "(internal/reflectlite.Value).Set"], unfollowed := true, recurses := true, named := ["undercroft/dir.errEnough", "errors.errorType"], apart := false, laid := [("errors.errorType", laid_errors_errorType), ("undercroft/dir.errEnough", laid_undercroft_dir_errEnough)] }
def DirKeepsSaid : Prop := dirKeepsRow.holds Tryz.pinned (OpenSpec.ofChange dirKeepsSpec)

/-- ITS FALSE NEIGHBOUR: 'it returns false'. Refute it at one input. -/
def dirKeepsWrong : ChangeSpec := { name := "dirKeeps", fn := fun _ => fun
  | [d] => { results := [.lit (.bool false)], args := [d] }
  | _ => none }
def DirKeepsWrongFalsely : Prop := dirKeepsRow.holds Tryz.pinned (OpenSpec.ofChange dirKeepsWrong)

/-- 'undercroftlaw11.DirLists': WHATEVER THE INPUT: true; the input reads as it did. -/
def dirListsSpec : ChangeSpec := { name := "dirLists", fn := fun _ => fun
  | [d1, d2, d3] => { results := [.lit (.bool true)], args := [d1, d2, d3] }
  | _ => none }
def dirListsRow : OpenClaim := { program := "ytldlnidbeiggoaagreatdoor", sum := "2bec2f1e2982abfb302f3328bf48dd061deee5055a10cec7bde4f92c6fc53895", func := "undercroft/undercroftlaw11.DirLists", spec := "dirLists", inPlace := ["internal/bytealg.IndexByteString", "internal/reflectlite.ValueOf", "(internal/reflectlite.Value).Type", "(internal/reflectlite.Value).IsNil", "internal/reflectlite.TypeOf", "(internal/reflectlite.Value).Elem", "(internal/reflectlite.Value).Set"], unfollowed := true, recurses := true, named := ["undercroft/dir.errEnough", "errors.errorType"], apart := false, laid := [("errors.errorType", laid_errors_errorType), ("undercroft/dir.errEnough", laid_undercroft_dir_errEnough)] }
def DirListsSaid : Prop := dirListsRow.holds Tryz.pinned (OpenSpec.ofChange dirListsSpec)

/-- ITS FALSE NEIGHBOUR: 'it returns false'. Refute it at one input. -/
def dirListsWrong : ChangeSpec := { name := "dirLists", fn := fun _ => fun
  | [d1, d2, d3] => { results := [.lit (.bool false)], args := [d1, d2, d3] }
  | _ => none }
def DirListsWrongFalsely : Prop := dirListsRow.holds Tryz.pinned (OpenSpec.ofChange dirListsWrong)

/-- 'undercroftlaw11.DirAbove': WHATEVER THE INPUT: true; the input reads as it did. -/
def dirAboveSpec : ChangeSpec := { name := "dirAbove", fn := fun _ => fun
  | [d1, d2, d3] => { results := [.lit (.bool true)], args := [d1, d2, d3] }
  | _ => none }
def dirAboveRow : OpenClaim := { program := "ytldlnidbeiggoaagreatdoor", sum := "2bec2f1e2982abfb302f3328bf48dd061deee5055a10cec7bde4f92c6fc53895", func := "undercroft/undercroftlaw11.DirAbove", spec := "dirAbove", inPlace := ["internal/bytealg.IndexByteString", "internal/reflectlite.ValueOf", "(internal/reflectlite.Value).Type", "(internal/reflectlite.Value).IsNil", "internal/reflectlite.TypeOf", "(internal/reflectlite.Value).Elem", "(internal/reflectlite.Value).Set"], unfollowed := true, recurses := true, named := ["undercroft/dir.errEnough", "errors.errorType"], apart := false, laid := [("errors.errorType", laid_errors_errorType), ("undercroft/dir.errEnough", laid_undercroft_dir_errEnough)] }
def DirAboveSaid : Prop := dirAboveRow.holds Tryz.pinned (OpenSpec.ofChange dirAboveSpec)

/-- ITS FALSE NEIGHBOUR: 'it returns false'. Refute it at one input. -/
def dirAboveWrong : ChangeSpec := { name := "dirAbove", fn := fun _ => fun
  | [d1, d2, d3] => { results := [.lit (.bool false)], args := [d1, d2, d3] }
  | _ => none }
def DirAboveWrongFalsely : Prop := dirAboveRow.holds Tryz.pinned (OpenSpec.ofChange dirAboveWrong)

/- THE SECOND FORM. 'bulk': how many values and letters a reading holds, each counted each time it is reached (what is shared counts as often as it is met; a slice's spare places count too). A statement '..UptoSaid' is the law's where the arguments, and the package variables that the reading takes, are together of bulk at most 1048576: NARROWER than '..Said'. Prove '..Said' where nothing that the law and all that it calls make is longer than what came in: it says more and counts as full. Else prove '..UptoSaid'. A law counts once. -/
mutual
def uptoBulk {H : Type} : DataW H → Nat
  | .lit (.string bytes) => bytes.length + 1
  | .lit _ => 1
  | .nil => 1
  | .ptr d => uptoBulk d + 1
  | .slice elems spare => uptoBulkAll elems + uptoBulkAll spare + 1
  | .agg parts => uptoBulkAll parts + 1
  | .iface _ d => uptoBulk d + 1
  | .map entries => uptoBulkEntries entries + 1
  | .held _ => 1
def uptoBulkAll {H : Type} : List (DataW H) → Nat
  | [] => 0
  | d :: r => uptoBulk d + uptoBulkAll r
def uptoBulkEntries {H : Type} : List (Lit × DataW H) → Nat
  | [] => 0
  | x :: r => uptoBulkEntry x + uptoBulkEntries r
def uptoBulkEntry {H : Type} : Lit × DataW H → Nat
  | (.string bytes, d) => bytes.length + uptoBulk d + 1
  | (_, d) => uptoBulk d + 1
 end
def uptoSmall : (H : Type) → List (DataW H) → Bool := fun _ ds => decide (uptoBulkAll ds ≤ 1048576)
def OpenSpec.upto (s : _root_.Go.ChangeSpec) : _root_.Go.OpenSpec := { _root_.Go.OpenSpec.ofChange s with cond := some uptoSmall }

/-- 'undercroftlaw10.InodeHolds', WHERE WHAT IT READS IS OF BULK AT MOST 1048576: true; the input reads as it did. -/
def inodeHoldsUptoRow : OpenClaim := { program := "ytldlnidbeiggoaagreatdoor", sum := "2bec2f1e2982abfb302f3328bf48dd061deee5055a10cec7bde4f92c6fc53895", func := "undercroft/undercroftlaw10.InodeHolds", spec := "inodeHolds", inPlace := ["internal/reflectlite.ValueOf", "(internal/reflectlite.Value).Type", "(internal/reflectlite.Value).IsNil", "internal/reflectlite.TypeOf", "(internal/reflectlite.Value).Elem", "(internal/reflectlite.Value).Set"], unfollowed := true, recurses := true, named := ["errors.errorType"], apart := false, laid := [("errors.errorType", laid_errors_errorType)], narrowed := true }
def InodeHoldsUptoSaid : Prop := inodeHoldsUptoRow.holds Tryz.pinned (OpenSpec.upto inodeHoldsSpec)

/-- 'undercroftlaw11.DirPlays', WHERE WHAT IT READS IS OF BULK AT MOST 1048576: true; the input reads as it did. -/
def dirPlaysUptoRow : OpenClaim := { program := "ytldlnidbeiggoaagreatdoor", sum := "2bec2f1e2982abfb302f3328bf48dd061deee5055a10cec7bde4f92c6fc53895", func := "undercroft/undercroftlaw11.DirPlays", spec := "dirPlays", inPlace := ["internal/bytealg.IndexByteString", "internal/reflectlite.ValueOf", "(internal/reflectlite.Value).Type", "(internal/reflectlite.Value).IsNil", "internal/reflectlite.TypeOf", "(internal/reflectlite.Value).Elem", "(internal/reflectlite.Value).Set"], unfollowed := true, recurses := true, named := ["undercroft/dir.errEnough", "errors.errorType"], apart := false, laid := [("errors.errorType", laid_errors_errorType), ("undercroft/dir.errEnough", laid_undercroft_dir_errEnough)], narrowed := true }
def DirPlaysUptoSaid : Prop := dirPlaysUptoRow.holds Tryz.pinned (OpenSpec.upto dirPlaysSpec)

/-- 'undercroftlaw11.DirNames', WHERE WHAT IT READS IS OF BULK AT MOST 1048576: true; the input reads as it did. -/
def dirNamesUptoRow : OpenClaim := { program := "ytldlnidbeiggoaagreatdoor", sum := "2bec2f1e2982abfb302f3328bf48dd061deee5055a10cec7bde4f92c6fc53895", func := "undercroft/undercroftlaw11.DirNames", spec := "dirNames", inPlace := ["internal/bytealg.IndexByteString", "internal/reflectlite.ValueOf", "(internal/reflectlite.Value).Type", "(internal/reflectlite.Value).IsNil", "internal/reflectlite.TypeOf", "(internal/reflectlite.Value).Elem", "(internal/reflectlite.Value).Set"], unfollowed := true, recurses := true, named := ["undercroft/dir.errEnough", "errors.errorType"], apart := false, laid := [("errors.errorType", laid_errors_errorType), ("undercroft/dir.errEnough", laid_undercroft_dir_errEnough)], narrowed := true }
def DirNamesUptoSaid : Prop := dirNamesUptoRow.holds Tryz.pinned (OpenSpec.upto dirNamesSpec)

/-- 'undercroftlaw11.DirKeeps', WHERE WHAT IT READS IS OF BULK AT MOST 1048576: true; the input reads as it did. -/
def dirKeepsUptoRow : OpenClaim := { program := "ytldlnidbeiggoaagreatdoor", sum := "2bec2f1e2982abfb302f3328bf48dd061deee5055a10cec7bde4f92c6fc53895", func := "undercroft/undercroftlaw11.DirKeeps", spec := "dirKeeps", inPlace := ["internal/bytealg.IndexByteString", "internal/reflectlite.ValueOf", "(internal/reflectlite.Value).Type", "(internal/reflectlite.Value).IsNil", "internal/reflectlite.TypeOf", "(internal/reflectlite.Value).Elem", "(internal/reflectlite.Value).Set"], unfollowed := true, recurses := true, named := ["undercroft/dir.errEnough", "errors.errorType"], apart := false, laid := [("errors.errorType", laid_errors_errorType), ("undercroft/dir.errEnough", laid_undercroft_dir_errEnough)], narrowed := true }
def DirKeepsUptoSaid : Prop := dirKeepsUptoRow.holds Tryz.pinned (OpenSpec.upto dirKeepsSpec)

/-- 'undercroftlaw11.DirLists', WHERE WHAT IT READS IS OF BULK AT MOST 1048576: true; the input reads as it did. -/
def dirListsUptoRow : OpenClaim := { program := "ytldlnidbeiggoaagreatdoor", sum := "2bec2f1e2982abfb302f3328bf48dd061deee5055a10cec7bde4f92c6fc53895", func := "undercroft/undercroftlaw11.DirLists", spec := "dirLists", inPlace := ["internal/bytealg.IndexByteString", "internal/reflectlite.ValueOf", "(internal/reflectlite.Value).Type", "(internal/reflectlite.Value).IsNil", "internal/reflectlite.TypeOf", "(internal/reflectlite.Value).Elem", "(internal/reflectlite.Value).Set"], unfollowed := true, recurses := true, named := ["undercroft/dir.errEnough", "errors.errorType"], apart := false, laid := [("errors.errorType", laid_errors_errorType), ("undercroft/dir.errEnough", laid_undercroft_dir_errEnough)], narrowed := true }
def DirListsUptoSaid : Prop := dirListsUptoRow.holds Tryz.pinned (OpenSpec.upto dirListsSpec)

/-- 'undercroftlaw11.DirAbove', WHERE WHAT IT READS IS OF BULK AT MOST 1048576: true; the input reads as it did. -/
def dirAboveUptoRow : OpenClaim := { program := "ytldlnidbeiggoaagreatdoor", sum := "2bec2f1e2982abfb302f3328bf48dd061deee5055a10cec7bde4f92c6fc53895", func := "undercroft/undercroftlaw11.DirAbove", spec := "dirAbove", inPlace := ["internal/bytealg.IndexByteString", "internal/reflectlite.ValueOf", "(internal/reflectlite.Value).Type", "(internal/reflectlite.Value).IsNil", "internal/reflectlite.TypeOf", "(internal/reflectlite.Value).Elem", "(internal/reflectlite.Value).Set"], unfollowed := true, recurses := true, named := ["undercroft/dir.errEnough", "errors.errorType"], apart := false, laid := [("errors.errorType", laid_errors_errorType), ("undercroft/dir.errEnough", laid_undercroft_dir_errEnough)], narrowed := true }
def DirAboveUptoSaid : Prop := dirAboveUptoRow.holds Tryz.pinned (OpenSpec.upto dirAboveSpec)

end Rows
end Go.Proofs.YtldlnidbeiggoaaGreatDoor
