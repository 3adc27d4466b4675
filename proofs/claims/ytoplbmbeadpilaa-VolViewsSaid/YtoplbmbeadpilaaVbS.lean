/- Set: a bit of a block of bits. -/
import Derived.Test.YtoplbmbeadpilaaVaB
namespace Go.Proofs.Ytoplbmbeadpilaa
open Go.RowKit Go.Maps
set_option linter.unusedVariables false

/-- A row of 512 bytes that holds bits. -/
def BitR (w : World) (g : Nat) (f : Nat → Bool) : Prop := w.heap[g]? = some (.cells (u8s (bitB f)).toArray 5 (0, 0))
theorem BitR.cell {w : World} {g : Nat} {f : Nat → Bool} (h : BitR w g f) {k : Nat} (hk : k < 512) : w.cell? ⟨g, k, none⟩ = some (.int .u8 (by8 f k)) := by
  refine cell_of h ?_
  rw [List.getElem?_toArray, u8s_get (by rw [bitB_len]; exact hk), bitB_get f hk]
theorem BitR.set {w : World} {g : Nat} {f : Nat → Bool} (h : BitR w g f) {k : Nat} (v : Int) {f' : Nat → Bool} (e : (bitB f).set k v = bitB f') : BitR (w.setCell ⟨g, k, none⟩ (.int .u8 v)) g f' := by
  unfold BitR
  rw [setc h k (.int .u8 v), ← e, List.setIfInBounds_toArray]
  simp
theorem BitR.by_ {w : World} {g : Nat} {f : Nat → Bool} (h : BitR w g f) {S : Nat → Prop} (hS : S g) : By w S (some ⟨g, 0, none⟩) (bitB f) :=
  ⟨bitB_isB f, fun _ => ⟨g, 0, _, _, rfl, hS, h, fun i hi => by rw [Nat.zero_add, List.getElem?_toArray, u8s_get hi]⟩⟩
theorem BitR.row {w : World} {g : Nat} {f : Nat → Bool} (h : BitR w g f) {B : Nat} (hB : B ≤ g) : w.ownsRow B 5 1 (.slice (some ⟨g, 0, none⟩) 512 512) 512 (u8s (bitB f)) := by
  refine ⟨by simp [bitB_len], .inr ⟨g, 512, _, rfl, hB, h, Nat.le_refl _, by decide, by simp [bitB_len], ?_⟩⟩
  simp [List.take_of_length_le, bitB_len]
set_option maxRecDepth 100000 in
set_option maxHeartbeats 1000000 in
theorem Set_any (w : World) (g : Nat) (f : Nat → Bool) (h : BitR w g f) (i : Nat) (hi : i < 4096) :
    Calls Try.prog 32 #[.slice (some ⟨g, 0, none⟩) 512 512, n64 i] w fun e w' => e = .returned (.tuple #[]) ∧ BitR w' g (fun j => f j || decide (j = i)) ∧ Mods (fun b => b = g) w w' := by
  have hk : i / 8 < 512 := by omega
  have hc := h.cell hk
  have hf := froz_of h (i / 8)
  have ed : ((i : Int) / 8).toNat = i / 8 := by omega
  have ep : (2 : Int) ^ (i % 8) % 256 = 2 ^ (i % 8) := by
    rcases fin8 (Nat.mod_lt i (show 0 < 8 by decide)) with e | e | e | e | e | e | e | e <;> rw [e] <;> decide
  have HE := hid (h.set _ (bitB_or f i hi))
  have HEP := hid ep
  clear ep
  go_enter Try.func32, Try.ntmps32
  go_region
  go_end0
  rw [HEP.out]
  exact ⟨rfl, HE.out, ((Mods.refl (fun b => b = g) w).setCell g _ _ rfl).drew⟩
end Go.Proofs.Ytoplbmbeadpilaa
