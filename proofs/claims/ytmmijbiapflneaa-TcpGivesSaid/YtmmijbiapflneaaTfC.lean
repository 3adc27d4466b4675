/- What goes out where no bytes wait. -/
import Derived.Test.YtmmijbiapflneaaTfB
namespace Go.Proofs.Ytmmijbiapflneaa
open Go.RowKit Go.Maps
set_option linter.unusedVariables false
theorem way_nn (c : Cn) : 0 ≤ wayC c := (s32_bd c.N c.U).1
set_option maxRecDepth 100000 in
set_option maxHeartbeats 4000000 in
theorem fresh_none {w : World} {p : Nat} {S : Nat → Prop} {c : Cn} {vc vm vw : Value} (h : CnX w p S c vc vm vw) (hw0 : c.waits = []) :
    Calls Try.prog 30 #[.pointer (some ⟨p, 0, none⟩)] w fun e w' => e = .returned (.slice none 0 0) ∧ Below w.heap.size w w' := by
  obtain ⟨a, k, rfl⟩ := len_waits h
  have p7 := cell_of h.box (i := 7) (v := .slice a c.waits.length k) rfl
  have HS := hid (sent_any h)
  have e0 : sentC c = 0 := by have := way_nn c; unfold sentC; rw [hw0]; simp only [List.length_nil]; omega
  rw [e0] at HS
  rw [hw0] at p7
  simp only [List.length_nil] at p7
  clear h hw0 e0
  go_enter Try.func30, Try.ntmps30
  go_wp2_with (go_at_call 31; refine HS.out.mono ?_; rintro e w2 ⟨rfl, hb2⟩; have HB2 := hid hb2; have p72 := cell_later hb2 p7; clear hb2 HS p7)
  go_loopw [3, 4, 5, 6] (fun v3 v4 _ _ wr => v3 = .slice none 0 0 ∧ v4 = .int .i64 0 ∧ w2 = wr) (fun _ _ _ _ _ => 0)
  case atStart => exact ⟨rfl, rfl, rfl⟩
  case round =>
    obtain ⟨rfl, rfl, rfl⟩ := hrel
    go_wp2
    go_ret
    exact ⟨rfl, HB2.out⟩
def outQ (c : Cn) : List Sg := if c.st = 1 ∧ c.oA = true then [answerS c] else if c.oK = true then [segOf c 16 c.N []] else []
def quietS (c : Cn) : Cn := { c with oA := false, oK := false, ag := false }
theorem quiet_cells (c : Cn) (vc vm vw : Value) : (((cnC c vc vm vw).setIfInBounds 17 (.bool false)).setIfInBounds 18 (.bool false)).setIfInBounds 12 (.bool false) = cnC (quietS c) vc vm vw := by simp [cnC, quietS]
/-- The end of Out: what is owed no more. -/
theorem CnX.quiet {w w' : World} {p : Nat} {S : Nat → Prop} {c : Cn} {vc vm vw : Value} (h : CnX w p S c vc vm vw) (hw' : w' = ((w.setCell ⟨p, 17, none⟩ (.bool false)).setCell ⟨p, 18, none⟩ (.bool false)).setCell ⟨p, 12, none⟩ (.bool false)) : CnX w' p S (quietS c) vc vm vw ∧ Mods (fun b => b = p) w w' := by
  have k1 := setc (w := w) h.box 17 (.bool false)
  have k2 := setc k1 18 (.bool false)
  have k3 := setc k2 12 (.bool false)
  rw [quiet_cells, ← hw'] at k3
  have m1 := (((Mods.refl (fun b => b = p) w).setCell p 17 (.bool false) rfl).setCell p 18 (.bool false) rfl).setCell p 12 (.bool false) rfl
  rw [← hw'] at m1
  exact ⟨h.turn m1 k3 rfl rfl rfl rfl rfl, m1⟩
end Go.Proofs.Ytmmijbiapflneaa
