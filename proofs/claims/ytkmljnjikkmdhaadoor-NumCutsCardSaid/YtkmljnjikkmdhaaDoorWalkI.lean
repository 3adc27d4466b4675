import Derived.Test.YtkmljnjikkmdhaaDoorRows
import Derived.Test.YtkmljnjikkmdhaaDoorWalkF
import Derived.Test.YtkmljnjikkmdhaaDoorWalkH
import Derived.WalkKit
import Derived.Lib.SlBytesConst
import Derived.WalkSpells
import Derived.WalkLawsBesides
import Derived.Deep.QuietTactic
import Derived.BigQuiet
/-
  The walk of the statements' own helper known: the chapter's examples come out true, and nothing old is changed. Condition: the table of sixteen words is as the program lays it.
-/
namespace Go.Proofs.YtkmljnjikkmdhaaDoor
open Go.RowKit
set_option linter.unusedVariables false

theorem new_cell (w : World) (c : Array Value) (t : TypeId) (fr : Nat × Nat) (i : Nat) (h : i < c.size) : (w.alloc (.cells c t fr)).cell? ⟨w.heap.size, i, none⟩ = some c[i] := by
  rw [World.cell?_alloc_mark w c t fr i]; simp [h]
theorem words_new (w : World) (l : List Int) (hl : ∀ x ∈ l, IsW x) : Words (w.alloc (.cells (l.map (fun x => Value.int .u64 x)).toArray 24)) (some ⟨w.heap.size, 0, none⟩) l := by
  intro i hi
  refine ⟨w.heap.size, 0, rfl, ?_, mem_getD l IsW hl i hi⟩
  rw [Nat.zero_add, new_cell _ _ _ _ i (by simpa using hi)]
  simp [hi, List.getD]
theorem bytes_new (w : World) (l : List Int) (fr : Nat × Nat) (hl : ∀ x ∈ l, IsB x) : Bytes (w.alloc (.cells (l.map (fun x => Value.int .u8 x)).toArray 5 fr)) (some ⟨w.heap.size, 0, none⟩) l := by
  intro i hi
  refine ⟨w.heap.size, 0, rfl, ?_, mem_getD l IsB hl i hi⟩
  rw [Nat.zero_add, new_cell _ _ _ _ i (by simpa using hi)]
  simp [hi, List.getD]
theorem rows_new (w : World) (l : List Int) (a : Option Addr) (c n : Nat) (hn : n = l.length) (h : Bytes w a l) : RowsOf (w.alloc (.cells #[.slice a n c] 22)) (some ⟨w.heap.size, 0, none⟩) [l] := by
  subst hn
  intro i hi
  obtain rfl : i = 0 := by simp at hi; omega
  refine ⟨w.heap.size, 0, a, c, rfl, ?_, ?_⟩
  · rw [Nat.zero_add, new_cell _ _ _ _ 0 (by simp)]; simp
  · exact h.later ((Below.refl _ _).alloc (Nat.le_refl _) _)
theorem known_crc : 4294967295 - crcOn 4294967295 [[49, 50, 51, 52, 53, 54, 55, 56, 57]].flatten = 3808858755 := by decide +kernel
theorem known_inet : 65535 - inetFold (wsum 0 [[0, 1, 242, 3, 244, 245, 246, 247]].flatten) = 8717 := by decide +kernel
theorem known_str : strOfNums [0, 1, 1, 2] = ⟨#[0, 1, 1, 2]⟩ := by decide +kernel
theorem Tab.later {w w' : World} (h : Tab w) (hb : Below w.heap.size w w') : Tab w' := fun i hi => cell_later hb (h i hi)

set_option maxHeartbeats 400000 in
theorem known_any (w : World) (hT : Tab w) :
    Calls Tryd.prog 14 #[] w fun e w' => e = .returned (.bool true) ∧ Below w.heap.size w w' := by
  have HT := hid hT
  clear hT
  go_enter Tryd.func14, Tryd.ntmps14
  go_wp2_with fail
  refine (putBe_yes none (some ⟨w.heap.size, 0, none⟩) 0 2 2 [] [1, 258] _ (by decide) (by decide) (Bytes.nil_ _ _) (words_new w [1, 258] (by simp [IsW])) (by decide) (by decide)).mono ?_
  rintro e w1 ⟨rfl, hb1, hs1, hr1⟩
  have HB1 := hid (((Below.refl w.heap.size w).alloc (Nat.le_refl _) (Obj.cells #[Value.int IntKind.u64 1, Value.int IntKind.u64 258] 24)).trans (hb1.mono (by simp)))
  have hcv := run_convert_bytes_arg w1 (P := Tryd.prog) 22 5 Tryd.underlying22 Tryd.underlying5 (w.heap.size + 1) 0 4 4 [0, 1, 1, 2] rfl (fun i hi => by
    have := hr1.cell (i := i) hi
    rw [Nat.zero_add]
    simpa [outBe, bytesBe, List.range, List.range.loop] using this) 9 Tryd.underlying9
  rw [known_str] at hcv
  have HZ := hid hs1
  clear hb1 hs1 hr1
  have hcc := fun (W : World) (C : Array Value) => Lib.run_convert_bytes_const (P := Tryd.prog) W 22 5 C 9 9 Tryd.underlying22 Tryd.underlying5
  go_wp2_with fail
  refine (crc_any (some ⟨w1.heap.size + 1, 0, none⟩) 1 [[49, 50, 51, 52, 53, 54, 55, 56, 57]] _ (by decide) (by decide) ?_ ?_).mono ?_
  · have hr := rows_new _ [49, 50, 51, 52, 53, 54, 55, 56, 57] _ 9 9 rfl (bytes_new w1 [49, 50, 51, 52, 53, 54, 55, 56, 57] (9, 10) (by simp [IsB]))
    simpa using hr
  · exact HT.out.later ((HB1.out.alloc (HB1.out.size) _).alloc (by simp; exact Nat.le_succ_of_le HB1.out.size) _)
  rintro e w2 ⟨rfl, rfl⟩
  rw [known_crc]
  go_wp2_with fail
  refine (inet_any (some ⟨w1.heap.size + 1 + 1 + 1, 0, none⟩) 1 [[0, 1, 242, 3, 244, 245, 246, 247]] _ (by decide) (by decide) ?_).mono ?_
  · have hr := rows_new _ [0, 1, 242, 3, 244, 245, 246, 247] _ 8 8 rfl (bytes_new ((w1.alloc (.cells ([49, 50, 51, 52, 53, 54, 55, 56, 57].map (fun x => Value.int .u8 x)).toArray 5 (9, 10))).alloc (.cells #[.slice (some ⟨w1.heap.size, 0, none⟩) 9 9] 22)) [0, 1, 242, 3, 244, 245, 246, 247] (0, 0) (by simp [IsB]))
    simpa using hr
  rintro e w2 ⟨rfl, rfl⟩
  rw [known_inet]
  go_wp2
  go_ret
  refine ⟨rfl, ?_⟩
  have hz := HB1.out.size
  refine (((HB1.out.alloc hz _).alloc ?_ _).alloc ?_ _).alloc ?_ _ <;> simp <;> omega
end Go.Proofs.YtkmljnjikkmdhaaDoor
