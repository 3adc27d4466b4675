/- The small functions of package ip: isWhole, whole. -/
import Derived.Test.YteeakkpbpffohaaPaC
import Derived.Test.YteeakkpbpffohaaEcG
namespace Go.Proofs.Yteeakkpbpffohaa
open Go.RowKit Go.Maps
set_option linter.unusedVariables false

/-- A packet in a box of the call's own. -/
theorem boxP (w : World) (M : Array Value) (t : TypeId) : ∃ W1, W1 = w.alloc (.cells M t) ∧ W1.heap[w.heap.size]? = some (.cells M t (0, 0)) ∧ Below w.heap.size w W1 :=
  ⟨_, rfl, alloc_new w _, below_alloc (Below.refl _ _) (Nat.le_refl _) _⟩
/-- bytes.Clone of any bytes, or of nil. -/
theorem Clone_all (w : World) (a : Option Addr) (n c : Nat) (l : List Int) (hn : l.length = n) (hl : n ≤ 900000) (hb : Bytes w a l) :
    Calls Try.prog 31 #[.slice a n c] w fun e w' => ∃ a2 c2, e = .returned (.slice a2 n c2) ∧ By w' (New w) a2 l ∧ n ≤ c2 ∧ Below w.heap.size w w' := by
  cases a with
  | some ad => exact Clone_y w ad n c l hn hl hb
  | none =>
    obtain rfl : l = [] := by
      cases l with
      | nil => rfl
      | cons x l => obtain ⟨b, off, ha, _⟩ := hb.open_ (by simp); simp at ha
    obtain rfl : n = 0 := by simpa using hn.symm
    have qT : ∀ (w : World) (a : Option Addr) (n c n' c' : Nat), (binOp .eql 22 (.slice a n c) (.slice none n' c')).run Try.prog w = .ok (.bool a.isNone) w := fun w a n c n' c' => Lib.run_eql_slice_nil w _ _ a n c n' c' Try.underlying22
    clear hb
    go_enter Try.func31, Try.ntmps31
    go_wp2
    go_ret
    exact ⟨none, 0, rfl, By.nil _ _ _, Nat.le_refl _, Below.refl _ _⟩
/-- A cell of a block is stored. -/
theorem setP {w : World} {g : Nat} {C : Array Value} {t : TypeId} (h : w.heap[g]? = some (.cells C t (0, 0))) (k : Nat) (v : Value) (B : Nat) (w0 : World) (hb : Below B w0 w) (hB : B ≤ g) :
    ∃ W, W = w.setCell ⟨g, k, none⟩ v ∧ W.heap[g]? = some (.cells (C.setIfInBounds k v) t (0, 0)) ∧ Below B w0 W ∧ (∀ b, b ≠ g → W.heap[b]? = w.heap[b]?) ∧ W.heap.size = w.heap.size := by
  refine ⟨_, rfl, setc h k v, ?_, fun b hb => ?_, by simp [World.setCell]⟩
  · exact ((Mods.refl (fun b => b = g) w).setCell g k v rfl).to_below hb (by have := (Array.getElem?_eq_some_iff.1 h).1; omega) (fun b hb => by rw [hb]; exact hB)
  · simp [World.setCell, Array.getElem?_modify, Ne.symm hb]
end Go.Proofs.Yteeakkpbpffohaa
