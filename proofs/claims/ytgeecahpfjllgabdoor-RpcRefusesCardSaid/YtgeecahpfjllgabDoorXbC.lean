/- XdK, XbC in one text. -/
import Derived.Test.YtgeecahpfjllgabDoorXdJ
import Derived.Test.YtgeecahpfjllgabDoorXbB
/- The document's reader: bytes with their length ahead. -/
namespace Go.Proofs.YtgeecahpfjllgabDoor
open Go.RowKit Go.Maps
set_option linter.unusedVariables false

end Go.Proofs.YtgeecahpfjllgabDoor

/- What is written, item by item, is the document's bytes: the law's walk. -/
namespace Go.Proofs.YtgeecahpfjllgabDoor
open Go.RowKit Go.Maps
set_option linter.unusedVariables false

theorem WX.row {w : World} {T : TypeId} {p : Nat} {S : Nat → Prop} {l : List Int} (h : WX w T p S l) : ∃ a c, w.heap[p]? = some (.cells #[.slice a l.length c] T (0, 0)) ∧ Bytes w a l := by
  obtain ⟨v, h1, h2, _⟩ := h.box
  obtain ⟨a, c, rfl⟩ := h2.shape
  refine ⟨a, c, h1, ?_⟩
  by_cases hp : 0 < l.length
  · obtain ⟨b, off, cap, e, _, _, hc, _⟩ := h2.at_ hp
    simp only [Value.slice.injEq, true_and] at e
    obtain ⟨rfl, _⟩ := e
    exact Bytes.mk_ h.isB (fun i hi => by
      have := hc i _ (u8s_get hi)
      exact this)
  · have : l = [] := List.eq_nil_of_length_eq_zero (by omega)
    rw [this]; exact Bytes.nil_ _ _
def itLs (L : List It) : List Int := L.flatMap itL
theorem itLs_snoc (L : List It) (k : Nat) (h : k < L.length) : itLs (L.take (k + 1)) = itLs (L.take k) ++ itL (L.getD k default) := by
  have e : L.getD k default = L[k] := by simp [List.getD, h]
  rw [itLs, e, List.take_succ_eq_append_getElem h, List.flatMap_append]; simp [itLs]
theorem ItR.later {w w' : World} {a : Option Addr} {L : List It} (h : ItR w a L) (hb : Below w.heap.size w w') (i : Nat) (hi : i < L.length) : ∃ b off, a = some ⟨b, off, none⟩ ∧ ∀ j, j < 5 → w'.cell? ⟨b, off + i * 5 + j, none⟩ = (itC (L.getD i default))[j]? := by
  obtain ⟨_, b, off, e, hc⟩ := h i hi
  refine ⟨b, off, e, fun j hj => ?_⟩
  have h1 := hc j hj
  obtain ⟨v, hv⟩ : ∃ v, (itC (L.getD i default))[j]? = some v := by
    rcases (show j = 0 ∨ j = 1 ∨ j = 2 ∨ j = 3 ∨ j = 4 by omega) with rfl | rfl | rfl | rfl | rfl <;> exact ⟨_, rfl⟩
  rw [hv] at h1 ⊢
  exact cell_later hb h1
end Go.Proofs.YtgeecahpfjllgabDoor
