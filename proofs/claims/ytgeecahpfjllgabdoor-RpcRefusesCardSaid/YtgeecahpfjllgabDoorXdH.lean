/- The document's reader: its numbers and truths. -/
import Derived.Test.YtgeecahpfjllgabDoorXdG
namespace Go.Proofs.YtgeecahpfjllgabDoor
open Go.RowKit Go.Maps
set_option linter.unusedVariables false

def nO (q : Option Int) (k n : Nat) : Rs Int := match q with | none => ⟨0, 11, k⟩ | some v => ⟨v, 0, k + n⟩
def nP (l : List Int) (k n : Nat) : Rs Int := nO (numQ l k n) k n
theorem nP4 (l : List Int) (k : Nat) : nP l k 4 = u32P l k := by unfold nP nO u32P; rfl
theorem nP8 (l : List Int) (k : Nat) : nP l k 8 = u64P l k := by unfold nP nO u64P; rfl
theorem RX.mods {w w' : World} {T : TypeId} {X : Nat → Prop} {p : Nat} {r : Rd} (h : RX w T X p r) (hm : Mods (fun b => b = p) w w') : Mods X w w' := hm.weak (fun b hb => .inl (by rw [hb]; exact h.xp))
section
variable {w : World} {X : Nat → Prop} {p : Nat} {r : Rd}
theorem ansV_bd (r : Rd) (n : Nat) (hI : ∀ x ∈ r.l, IsB x) : 0 ≤ ansV r 0 (nP r.l r.k n) ∧ ansV r 0 (nP r.l r.k n) < 256 ^ n := by
  have hp : (0 : Int) < 256 ^ n := Int.pow_pos (by omega)
  unfold ansV nP nO
  cases hq : numQ r.l r.k n with
  | none => by_cases h : r.e = 0 <;> simp [h, hp]
  | some v =>
    have := numQ_bd hq hI
    by_cases h : r.e = 0
    · simp [h, this]
    · simp [h, hp]
theorem RX.isB {T : TypeId} (h : RX w T X p r) : ∀ x ∈ r.l, IsB x := let ⟨_, _, _, _, h3⟩ := h.box; (h3 w (Mods.refl _ _)).isB
end
end Go.Proofs.YtgeecahpfjllgabDoor
