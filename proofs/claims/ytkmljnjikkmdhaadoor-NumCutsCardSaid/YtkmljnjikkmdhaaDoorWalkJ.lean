import Derived.Test.YtkmljnjikkmdhaaDoorRows
import Derived.Test.YtkmljnjikkmdhaaDoorWalkD
import Derived.Test.YtkmljnjikkmdhaaDoorWalkI
import Derived.WalkKit
import Derived.WalkSpells
import Derived.WalkLawsBesides
import Derived.Deep.QuietTactic
import Derived.BigQuiet
namespace Go.Proofs.YtkmljnjikkmdhaaDoor
open Go.RowKit
set_option linter.unusedVariables false

theorem marks_bytes {w : World} {g : Nat} {l : List Int} (hl : ∀ x ∈ l, IsB x) (hr : w.rowIs g 5 (l.length + 9) (fun i => .int .u8 (marks l i))) : Bytes w (some ⟨g, 0, none⟩) l :=
  Bytes.mk_ hl fun i hi => by
    have := hr.cell (i := i) (by omega)
    rw [Nat.zero_add, this]
    unfold marks
    rw [if_pos hi]
theorem rowIs_later {w w' : World} {g n : Nat} {t : TypeId} {f : Nat → Value} (h : w.rowIs g t n f) (hb : Below w.heap.size w w') : w'.rowIs g t n f := h.of_block (hb.block g h.lt)

set_option maxHeartbeats 400000 in
theorem numReads_walk (a : Option Addr) (cap : Nat) (l : List Int) (at_ n : Int) (w : World) (hl : l.length ≤ 140737488351232) (hc : l.length ≤ cap) (h : Bytes w a l) (hT : Tab w) :
    Calls Tryd.prog 3 #[.slice a l.length cap, .int .i64 at_, .int .i64 n] w fun e w' => e = .returned (.bool true) ∧ Below w.heap.size w w' := by
  have HT := hid hT
  have HB := hid h
  have hm : l.length ≤ maxLen := by unfold maxLen; omega
  clear h hT
  go_enter Tryd.func3, Tryd.ntmps3
  go_wp2_with fail
  refine (lend_any _ _ _ _ (by omega) HB.out).mono ?_
  rintro e w1 ⟨rfl, hb1, hs1, hr1⟩
  have HB1 := hid hb1
  have HR1 := hid hr1
  have HM := hid (marks_bytes HB.out.isB hr1)
  have HBy := hid (HB.out.later hb1)
  clear hb1 hs1 hr1
  go_wp2_with fail
  refine (numLe_any _ _ l at_ n _ hm (by omega) HM.out).mono ?_
  rintro e w2 ⟨rfl, q1, rfl⟩
  go_wp2_with fail
  refine (numBe_any _ _ l at_ n _ hm (by omega) (HM.out.drewN q1)).mono ?_
  rintro e w2 ⟨rfl, q2, rfl⟩
  go_wp2_with fail
  refine (refLe_any _ _ l at_ n _ hm ?_).mono ?_
  · exact HBy.out
  rintro e w2 ⟨rfl, rfl⟩
  go_wp2_with fail
  refine (refBe_any _ _ l at_ n _ hm ?_).mono ?_
  · exact HBy.out
  rintro e w2 ⟨rfl, rfl⟩
  go_wp2_with fail
  refine (known_any _ ?_).mono ?_
  · exact HT.out.later (below_drewN HB1.out _)
  rintro e w3 ⟨rfl, hb3⟩
  have HB3 := hid (show Below w1.heap.size w1 w3 from ⟨hb3.os, hb3.tape, hb3.output, hb3.size, hb3.block⟩)
  clear hb3
  go_wp2_with fail
  refine (kept_any w.heap.size a cap l w3 (by omega) (rowIs_later HR1.out HB3.out) (HBy.out.later HB3.out)).mono ?_
  rintro e w4 ⟨rfl, q4, rfl⟩
  go_wp2
  go_ret
  refine ⟨rfl, ?_⟩
  exact below_drewN (HB1.out.trans (HB3.out.mono HB1.out.size)) q4
end Go.Proofs.YtkmljnjikkmdhaaDoor
