/- Out, where it gave up. -/
import Derived.Test.YtmmijbiapflneaaTkB
import Derived.Test.YtmmijbiapflneaaThA
namespace Go.Proofs.Ytmmijbiapflneaa
open Go.RowKit Go.Maps
set_option linter.unusedVariables false
theorem gUf_cells (c : Cn) (vc vm vw : Value) : (cnC c vc vm vw).setIfInBounds 19 (.bool false) = cnC { c with gU := false } vc vm vw := by simp [cnC]
set_option maxRecDepth 100000 in
set_option maxHeartbeats 8000000 in
theorem Out_g {w : World} {p : Nat} {S : Nat → Prop} {c : Cn} {vc vm vw : Value} (h : CnX w p S c vc vm vw) (hgU : c.gU = true) (hcl : c.came.length ≤ 16384) :
    Calls Try.prog 13 #[.pointer (some ⟨p, 0, none⟩)] w fun e w' => ∃ b off cap, e = .returned (.slice (some ⟨b, off, none⟩) 1 cap) ∧ 1 ≤ cap ∧ w'.cell? ⟨b, off + 4, none⟩ = some (.int .i64 20) ∧ CnX w' p S { c with gU := false } vc vm vw ∧ Kp S w S w' := by
  have e19 := cell_of h.box (i := 19) (v := .bool true) (by show some (Value.bool c.gU) = some (Value.bool true); rw [hgU])
  have f19 := froz_of h.box 19
  have hs1 := h.set (c' := { c with gU := false }) 19 (.bool false) (gUf_cells _ _ _ _) rfl rfl rfl rfl rfl
  obtain ⟨V1, hV1⟩ : ∃ V, V = w.setCell ⟨p, 19, none⟩ (.bool false) := ⟨_, rfl⟩
  rw [← hV1] at hs1
  have c6 := cell_of hs1.1.box (i := 6) (v := .int .u32 c.N) rfl
  have HX1 := hid hs1.1
  have HK1 := hid hs1.2
  have hsg := segment_any hs1.1 hcl 20 c.N none 0 0 [] rfl (by omega) (Bytes.nil_ _ _)
  rw [show ownW ({ c with gU := false } : Cn) = ownW c from rfl] at hsg
  have HSG := hid hsg
  clear hsg
  have hV1' := hV1.symm
  clear hs1 hV1 h hgU hcl
  go_enter Try.func13, Try.ntmps13
  go_wp2_with (first
    | (go_at_call 27; refine HSG.out.mono ?_; rintro e w2 ⟨a2, c2, rfl, hy2, hc2, hb2⟩
       obtain ⟨W3, hW3⟩ : ∃ W, W = w2.alloc (.cells #[.int .i64 c.fr, .int .i64 c.to_, .int .u32 c.N, .int .u32 c.R, .int .i64 20, .int .i64 (ownW c), .int .i64 0, .slice a2 0 c2] 30) := ⟨_, rfl⟩
       have b3 : Below w2.heap.size w2 W3 := by rw [hW3]; exact below_alloc (Below.refl _ _) (Nat.le_refl _) _
       have h3 : W3.cell? ⟨w2.heap.size, 0 + 4, none⟩ = some (.int .i64 20) := by rw [hW3]; exact cell_of (alloc_new w2 _) rfl
       have HX3 := hid ((HX1.out.later hb2).later b3)
       have HK3 := hid (HK1.out.trans ((Kp.below (S := S) hb2).trans (Kp.below b3)))
       have H3 := hid h3
       clear b3 h3 hb2 hy2 hc2 HSG
       have hW3' := hW3.symm
       clear hW3))
  go_ret
  exact ⟨_, 0, 1, rfl, Nat.le_refl _, H3.out, HX3.out, HK3.out⟩
end Go.Proofs.Ytmmijbiapflneaa
