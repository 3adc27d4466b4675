/- Package ip's Cut. -/
import Derived.Test.YteeakkpbpffohaaPbB
namespace Go.Proofs.Yteeakkpbpffohaa
open Go.RowKit Go.Maps
set_option linter.unusedVariables false
def cutE (p : Pk) (mtu : Int) : Int := if mtu < 28 then 1 else if (decide (p.off = 0) && !p.more) = false then 15 else 0
def cutP (p : Pk) (mtu : Int) : List Pk :=
  if mtu < 28 then [] else if (decide (p.off = 0) && !p.more) = false then [] else if 20 + (p.body.length : Int) ≤ mtu then [{ p with whole := true }] else partsL p ((mtu - 20) / 8 * 8).toNat (numP p.body.length ((mtu - 20) / 8 * 8).toNat)
theorem PL.one (w : World) (t B : Nat) (W : World) (x : Px) (hx : By w (fun b => B ≤ b) x.a x.p.body) (hB : B ≤ w.heap.size) (hc : x.p.body.length ≤ x.c) (hW : W = w.alloc (.cells (pxV x).toArray t)) : PL W t B (.slice (some ⟨w.heap.size, 0, none⟩) 1 1) [x] := by
  subst hW
  have h1 : (w.alloc (.cells (pxV x).toArray t)).heap[w.heap.size]? = some (.cells (pxV x).toArray t (0, 0)) := alloc_new w _
  have hb : Below w.heap.size w (w.alloc (.cells (pxV x).toArray t)) := below_alloc (Below.refl _ _) (Nat.le_refl _) _
  refine ⟨⟨by rw [cellsPx_len], .inr ⟨w.heap.size, 0, 1, _, rfl, h1, by simp, by unfold maxLen; omega, by simp [pxV_len], fun j hj => ?_⟩⟩, fun b hb => ?_, fun y hy => ?_⟩
  · rw [Nat.zero_add]; simp [cellsPx]
  · simp [blkV] at hb; omega
  · obtain rfl : y = x := by simpa using hy
    refine ⟨?_, hc⟩
    have h2 := (hx.weak (S' := fun b => B ≤ b ∧ b < w.heap.size) (fun b h1 h2 => ⟨h1, h2⟩)).later hb
    exact h2.weak (fun b h _ => ⟨h.1, fun e => by simp [blkV] at e; have := h.2; omega⟩)
end Go.Proofs.Yteeakkpbpffohaa
