/- XdI, XdJ in one text. -/
import Derived.Test.YtgeecahpfjllgabDoorXdH
/- The document's reader: truths, bytes. -/
namespace Go.Proofs.YtgeecahpfjllgabDoor
open Go.RowKit Go.Maps
set_option linter.unusedVariables false

section
variable {w : World} {X : Nat → Prop} {p : Nat} {r : Rd}
end
end Go.Proofs.YtgeecahpfjllgabDoor

/- The document's reader: bytes and the noughts behind them. -/
namespace Go.Proofs.YtgeecahpfjllgabDoor
open Go.RowKit Go.Maps
set_option linter.unusedVariables false

/-- What a call that answers bytes leaves. -/
def BytesPost (w : World) (T : TypeId) (X : Nat → Prop) (p : Nat) (V : List Int) (r' : Rd) (e : Ending) (w' : World) : Prop :=
  (∃ a2 c2, e = .returned (.slice a2 V.length c2) ∧ By w' (New w) a2 V ∧ V.length ≤ c2) ∧ RX w' T X p r' ∧ Mods (fun b => b = p) w w'
theorem BytesPost.none_ {w w' : World} {T : TypeId} {X : Nat → Prop} {p : Nat} {r' : Rd} (h : RX w' T X p r') (hm : Mods (fun b => b = p) w w') : BytesPost w T X p [] r' (.returned (.slice none 0 0)) w' := ⟨⟨none, 0, rfl, By.nil _ _ _, Nat.le_refl _⟩, h, hm⟩
end Go.Proofs.YtgeecahpfjllgabDoor
