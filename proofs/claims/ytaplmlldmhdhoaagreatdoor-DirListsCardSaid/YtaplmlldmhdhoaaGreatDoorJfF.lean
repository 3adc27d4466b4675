/- JeK, JfF in one text. -/
import Derived.Test.YtaplmlldmhdhoaaGreatDoorTie
import Derived.Test.YtaplmlldmhdhoaaGreatDoorCards
import Derived.Test.YtaplmlldmhdhoaaGreatDoorIaA
import Derived.Test.YtaplmlldmhdhoaaGreatDoorJdX
import Derived.WalkKit
import Derived.ProofKit
import Derived.OpenShut
import Derived.ChangeSame
import Derived.ChangeVars
import Derived.JoinedOf
import Derived.RowKit
import Derived.RowKitTokens
import Derived.LaidLaws
import Derived.LaidHandle
import Derived.Stop.Joined
import Derived.Below
import Derived.Stop.LaidErr
import Derived.ChangeMaps5
import Derived.Test.YtaplmlldmhdhoaaGreatDoorJfA
import Derived.Deep.Slices
/- The frame of a row: what the two listed variables hold. -/
namespace Go.Proofs.YtaplmlldmhdhoaaGreatDoor
open Go.ChangeShapes Go.WideShapes Go.ChangeAt Go.RowKit
set_option linter.unusedVariables false

theorem own : ownKnob Tryz.prog.godebug = none := by kernel_rfl
theorem laidOut : laidOutB Tryz.prog = true := by kernel_rfl
theorem etG : Tryz.prog.globalNamed "errors.errorType" = some 1 := by kernel_rfl
theorem rtG : (Tryz.prog.cutTypes.find? (·.1 == "internal/reflectlite.rtype")).map (·.2) = some 140 := by kernel_rfl
theorem oneRowG : ((List.range (377 - 100)).filter fun t => Tryz.prog.rowNamed t [101, 114, 114, 111, 114]) = [36] := by kernel_rfl
theorem sizeG : Tryz.prog.types.size = 377 - 100 := by kernel_rfl
theorem enG : Tryz.prog.globalNamed "undercroft/dir.errEnough" = some 0 := by kernel_rfl
theorem enType : (Tryz.prog.globals[0]?).map (·.type) = some 36 := by kernel_rfl
theorem cellsES : Tryz.prog.cellsOf 265 = 1 := by kernel_rfl
theorem cells9 : Tryz.prog.cellsOf 9 = 1 := by kernel_rfl
theorem star : "*" ++ "errors.errorString" = "*errors.errorString" := by decide
theorem rowES (u : TypeId) (h : Tryz.prog.typeName? 3 u = some "*errors.errorString") : u = 239 :=
  typeName_ptr_named (nm := "errors.errorString") (by rw [star]; kernel_rfl) (by kernel_rfl) (by decide) u (by rw [star]; exact h)
def laid2 : List (String × DataW Unit) := [("errors.errorType", Rows.laid_errors_errorType), ("undercroft/dir.errEnough", Rows.laid_undercroft_dir_errEnough)]
def laidE : List (String × DataW Unit) := [("undercroft/dir.errEnough", Rows.laid_undercroft_dir_errEnough)]
def laid1 : List (String × DataW Unit) := [("errors.errorType", Rows.laid_errors_errorType)]
/-- What the condition gives a walk. -/
theorem gl_of_laid {W : World} (h : laidMetH Tryz.prog laid2 W) : Gl W := by
  have h' : laidMet Tryz.prog laidE W ∧ handlesMet Tryz.prog laid1 W := h
  obtain ⟨name, u, ty, e1, e2, e3, e4, e5⟩ := h'.2 _ (List.mem_singleton.2 rfl)
  have en : name = [101, 114, 114, 111, 114] := (Option.some.inj e1).symm
  subst en
  obtain rfl := Option.some.inj (rtG.symm.trans e2)
  have hm : ty ∈ (List.range (377 - 100)).filter fun t => Tryz.prog.rowNamed t [101, 114, 114, 111, 114] := List.mem_filter.2 ⟨List.mem_range.2 (by rw [← sizeG]; exact e3), e4⟩
  rw [oneRowG] at hm
  obtain rfl := List.mem_singleton.1 hm
  have hh : typeHandle Tryz.prog 36 = .pointer (some ⟨3, 36, none⟩) := by kernel_rfl
  rw [hh] at e5
  have := World.var?_cell etG e5 0
  unfold Gl
  simpa using this
theorem en_of_laid {W : World} (h : laidMetH Tryz.prog laid2 W) : ∃ pe, En0 W pe := by
  have h' : laidMet Tryz.prog laidE W ∧ handlesMet Tryz.prog laid1 W := h
  obtain ⟨a, s, hv, _, _, _⟩ := laid_sentinel h'.1 enG enType Tryz.underlying36 rowES Tryz.underlying239 Tryz.underlying265 rfl rfl Tryz.underlying9 cellsES cells9
  refine ⟨a, ?_⟩
  unfold World.var? at hv
  rw [enG] at hv
  simp only [Option.bind_some] at hv
  split at hv
  · rename_i cs t f hh
    exact ⟨cs, t, f, hh, by rw [Option.some.inj hv]; rfl⟩
  · cases hv
/-- A world that meets the condition. -/
noncomputable def low : Nat := (World.holding Tryz.prog default ⟨#[], #[], []⟩).heap.size
noncomputable def laidWorld (os : Os) : World :=
  let w0 := World.holding Tryz.prog os ⟨#[.cells #[.string { data := #[101, 110, 111, 117, 103, 104] }] 265], #[], []⟩
  { w0 with heap := (w0.heap.modify 1 fun
      | .cells _ t frozen => .cells #[.iface 140 (.agg #[.pointer (some ⟨3, 36, none⟩)])] t frozen
      | o => o).modify 0 fun
      | .cells _ t frozen => .cells #[.iface 239 (.pointer (some ⟨low, 0, none⟩))] t frozen
      | o => o }
theorem laidWorld_met (os : Os) (args : Array Value) : laidMetH Tryz.prog laid2 ((laidWorld os).forCall (fun _ _ => 0) ⟨#[], args, []⟩).memory :=
  laidMetH_of_parts (laidMet_of_run (l := laidE) (ps := [.cell 0 0, .cell low 0]) 8 (by kernel_rfl) (by kernel_rfl) (by kernel_rfl)) (by kernel_rfl)
theorem u64_wf {x : Int} (h : (Lit.int .u64 x).wf = true) : 0 ≤ x ∧ x < 18446744073709551616 := by
  have h1 : IntKind.u64.min = 0 := rfl
  have h2 : IntKind.u64.max = 18446744073709551615 := rfl
  simp only [Lit.wf, Bool.and_eq_true, decide_eq_true_eq] at h
  omega
theorem i64_wf {x : Int} (h : (Lit.int .i64 x).wf = true) : -9223372036854775808 ≤ x ∧ x < 9223372036854775808 := by
  have h1 : IntKind.i64.min = -9223372036854775808 := rfl
  have h2 : IntKind.i64.max = 9223372036854775807 := rfl
  simp only [Lit.wf, Bool.and_eq_true, decide_eq_true_eq] at h
  omega
end Go.Proofs.YtaplmlldmhdhoaaGreatDoor

/- What came in, opened: a row of numbers. -/
namespace Go.Proofs.YtaplmlldmhdhoaaGreatDoor
open Go.ChangeShapes Go.WideShapes Go.ChangeAt Go.RowKit Go.Deep
set_option linter.unusedVariables false
theorem cellsI3 : Tryz.prog.cellsOf 3 = 1 := by kernel_rfl
theorem trod_ints {H : Type} {enc : TypeId × Value → H} {W : World} {base fuel : Nat} {sp : Nat → Bool} {held : Bool} {cs : List Value} {x : DataW H × List MemPlace}
    (h : DataW.trod enc Tryz.prog W base sp held fuel 22 cs = some x) : ∃ a cap l, cs = [.slice a l.length cap] ∧ IntR W a l ∧ l.length ≤ maxLen := by
  rcases open_slice Tryz.underlying22 h with ⟨hcs, _⟩ | ⟨a, len, cap, m, n, D, Pl, hcs, _, hl, hm, hmm, _, hel⟩
  · exact ⟨none, 0, [], hcs, fun i hi => by simp at hi, by simp⟩
  · rw [cellsI3] at hel
    have hlm : len ≤ m := by rw [hmm]; split <;> omega
    have hq : ∀ i, i < len → ∃ q : Int, W.cell? (a.add i) = some (.int .i64 q) := fun i hi => by
      obtain ⟨cs', h1, h2⟩ := hel i (by omega)
      obtain ⟨q, rfl, _, hw⟩ := DataW.trod_int Tryz.underlying3 h2
      rw [Nat.mul_one] at h1
      exact ⟨q, cell_of_cells?_one h1⟩
    obtain ⟨f, hf⟩ := choose_lt (α := Int) hq
    refine ⟨some a, cap, (List.range len).map f, by simpa using hcs, fun i hi => ?_, by simp; omega⟩
    have hi' : i < len := by simpa using hi
    have h1 := hf i hi'
    have hsp : a.spot = none := by simpa [Addr.add] using World.cell?_spot (hf 0 (by omega))
    obtain ⟨b, off, sp⟩ := a
    simp only at hsp
    subst hsp
    have e : ((List.range len).map f).getD i 0 = f i := by simp [List.getD, hi']
    rw [e]
    rw [add_addr] at h1
    exact ⟨b, off, rfl, h1⟩
set_option maxRecDepth 100000 in
theorem open_ints {H : Type} {enc : TypeId × Value → H} {W : World} {base : Nat} {v : Value} {d : DataW H} {p : List MemPlace} (hval : Value.okWide Tryz.prog W .any base 22 v) (h : DataW.Trod enc Tryz.prog W 0 (fun _ => true) true 22 v d p) :
    ∃ a cap l, v = .slice a l.length cap ∧ IntR W a l ∧ l.length ≤ maxLen := by
  obtain ⟨a0, len0, cap0, rfl⟩ := okWide_slice Tryz.underlying22 hval
  obtain ⟨fuel, hf⟩ := h
  obtain ⟨a, cap, l, h1, h2, h3⟩ := trod_ints hf
  exact ⟨a, cap, l, by simpa [Value.cells] using h1, h2, h3⟩
end Go.Proofs.YtaplmlldmhdhoaaGreatDoor
