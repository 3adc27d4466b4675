/- Tables of calls: End, of one that runs. -/
import Derived.Test.YthgmghfegaemkaaQbG
namespace Go.Proofs.Ythgmghfegaemkaa
open Go.RowKit Go.Maps
set_option linter.unusedVariables false
set_option maxRecDepth 100000 in
set_option maxHeartbeats 2000000 in
theorem End_yes (w : World) (p : Nat) (S : Nat → Prop) (n : Nat) (L : Tl) (c gm : Nat) (vo : Value) (h : TbX w p S n L c gm vo) (k : Ky) (hk : k.Ok) (hf : fndT L k = some none) (hcc : c < 1000000) (a : Option Addr) (rn rc : Nat) (r : List Int) (hrn : r.length = rn) (hrl : rn ≤ 900000) (hr : Bytes w a r) :
    Calls Try.prog 11 #[.pointer (some ⟨p, 0, none⟩), kV k, .slice a rn rc] w (EndPost w p S n L c k r) := by
  obtain ⟨W1, hW1⟩ : ∃ W, W = w.alloc (.cells (kL k).toArray 33) := ⟨_, rfl⟩
  obtain ⟨g3, hg3⟩ : ∃ g, w.heap.size = g := ⟨_, rfl⟩
  have b1 : Below w.heap.size w W1 := by rw [hW1]; exact below_alloc (Below.refl _ _) (Nat.le_refl _) _
  have h1 := h.later b1
  have hg1 : W1.heap[g3]? = some (.cells (kL k).toArray 33 (0, 0)) := by rw [hW1, ← hg3]; exact alloc_new w _
  obtain ⟨M, hM, hT⟩ := h1.mp
  obtain ⟨va, m, cc, hlv⟩ := hT.st hk
  have e2 : stI (fndT L k) = 2 := stI_two.2 hf
  have hlk : ∀ q, (Instr.lookup 54 (.map (some gm)) (.agg #[.int .u32 k.ip, .int .i64 k.port, .int .u32 k.xid, .int .u32 k.proc, .int .u32 k.sum]) false).run Try.prog (W1.drewN q) = .ok (.agg #[.int .i64 2, .slice va m cc]) (W1.drewN q) := fun q => by
    rw [← e2, ← hlv]; exact (hM.keep (w' := W1.drewN q) rfl).look Try.underlying54 (zeroPr _) hk
  have c1 : W1.cell? ⟨p, 1, none⟩ = some (.map (some gm)) := cell_of h1.box rfl
  have k0 : W1.cell? ⟨g3, 0, none⟩ = some (.int .u32 k.ip) := cell_of hg1 rfl
  have k1 : W1.cell? ⟨g3, 1, none⟩ = some (.int .i64 k.port) := cell_of hg1 rfl
  have k2 : W1.cell? ⟨g3, 2, none⟩ = some (.int .u32 k.xid) := cell_of hg1 rfl
  have k3 : W1.cell? ⟨g3, 3, none⟩ = some (.int .u32 k.proc) := cell_of hg1 rfl
  have k4 : W1.cell? ⟨g3, 4, none⟩ = some (.int .u32 k.sum) := cell_of hg1 rfl
  have hfd := fun (W : World) => fieldPr (.int .i64 2) (.slice va m cc) W
  have HB := hid b1
  have HP1 := hid h1.box
  have HG1 := hid hg1
  have HW := hW1.symm
  have HEC := hid (show enC L k = 0 by unfold enC; rw [if_pos hf])
  have HEL := hid (show enL L k r = doneT L k r by unfold enL; rw [if_pos hf])
  have HH := hid h
  have HKO := hid hk
  have HF := hid hf
  have HC := hid hcc
  have HRN := hid hrn
  have HR := hid hr
  clear hW1 b1 h1 hg1 hM hT hlv h hf hk e2 hcc hrn hr
  go_enter Try.func11, Try.ntmps11
  go_wp2_with fail
  go_quiet (fail)
  go_upto_region 3 with fail
  have hB2 := below_drewN HB.out nq
  refine wp_region_held_drew (S := fun W => W.heap[p]? = some (.cells #[.int .i64 n, .map (some gm), vo] 56 (0, 0)) ∧ W.heap[g3]? = some (.cells (kL k).toArray 33 (0, 0))) (by kernel_rfl) ⟨HP1.out, HG1.out⟩ (fun hS => ?_)
  obtain ⟨W4, hW4⟩ : ∃ W, W = (W1.drewN nq).drew := ⟨_, rfl⟩
  rw [← hW4] at hS ⊢
  have HB4 : Hid (Below w.heap.size w W4) := hid (by rw [hW4]; exact hB2.drew)
  clear hB2
  have HCL := hid (CloneB_any W4 a rn rc r HRN.out hrl (HR.out.later HB4.out))
  refine nany_take 0 15 (.pointer (some ⟨p, 0, none⟩)) rfl rfl (by kernel_rfl) (by kernel_rfl) (by kernel_rfl) (fun _ _ _ h => h) (Or.inl ⟨by rfl, ?_⟩) hS ?_
  · rintro w' hS'
    go_simp
  simp only [List.setIfInBounds_toArray, List.set_cons_zero, List.set_cons_succ]
  refine nany_take 1 16 (.pointer (some ⟨p, 0, none⟩)) rfl rfl (by kernel_rfl) (by kernel_rfl) (by kernel_rfl) (fun _ _ _ h => h) (Or.inl ⟨by rfl, ?_⟩) hS ?_
  · rintro w' hS'
    go_simp
  simp only [List.setIfInBounds_toArray, List.set_cons_zero, List.set_cons_succ]
  refine nany_take 2 17 (.pointer (some ⟨p, 1, none⟩)) rfl rfl (by kernel_rfl) (by kernel_rfl) (by kernel_rfl) (fun _ _ _ h => h) (Or.inl ⟨by rfl, ?_⟩) hS ?_
  · rintro w' hS'
    go_simp
  simp only [List.setIfInBounds_toArray, List.set_cons_zero, List.set_cons_succ]
  refine nany_take 3 18 (.map (some gm)) rfl rfl (by kernel_rfl) (by kernel_rfl) (by kernel_rfl) (fun _ _ _ h => h) (Or.inl ⟨by rfl, ?_⟩) hS ?_
  · rintro w' hS'
    have hc := cell_of hS'.1 (i := 1) (v := .map (some gm)) rfl; go_simp
  simp only [List.setIfInBounds_toArray, List.set_cons_zero, List.set_cons_succ]
  refine nany_take 4 19 (kV k) rfl rfl (by kernel_rfl) (by kernel_rfl) (by kernel_rfl) (fun _ _ _ h => h) (Or.inl ⟨by rfl, ?_⟩) hS ?_
  · rintro w' hS'
    have k0 := cell_of hS'.2 (i := 0) (v := .int .u32 k.ip) rfl; have k1 := cell_of hS'.2 (i := 1) (v := .int .i64 k.port) rfl; have k2 := cell_of hS'.2 (i := 2) (v := .int .u32 k.xid) rfl; have k3 := cell_of hS'.2 (i := 3) (v := .int .u32 k.proc) rfl; have k4 := cell_of hS'.2 (i := 4) (v := .int .u32 k.sum) rfl; go_simp
  simp only [List.setIfInBounds_toArray, List.set_cons_zero, List.set_cons_succ]
  refine nany_take 5 20 (.slice a rn rc) rfl rfl (by kernel_rfl) (by kernel_rfl) (by kernel_rfl) (fun _ _ _ h => h) (Or.inl ⟨by rfl, ?_⟩) hS ?_
  · rintro w' hS'
    go_simp
  simp only [List.setIfInBounds_toArray, List.set_cons_zero, List.set_cons_succ]
  refine nany_one 6 (by kernel_rfl) ?_
  refine nop_callE 21 (f := 14) (args := #[.slice a rn rc]) (R := fun v w' => ∃ a2 c2, v = .slice a2 rn c2 ∧ By w' (New W4) a2 r ∧ (rn ≤ c2 ∧ RW w' 5 1 (.slice a2 rn c2) rn (u8s r) ∧ ∀ b, blkV (.slice a2 rn c2) = some b → W4.heap.size ≤ b) ∧ Below W4.heap.size W4 w') rfl (by rfl) rfl (by go_simp) (HCL.out.mono (fun e w' h => by obtain ⟨a2, c2, rfl, h1, h2, h3⟩ := h; exact ⟨_, rfl, a2, c2, rfl, h1, h2, h3⟩)) ?_
  rintro v w5 ⟨a2, c2, rfl, hy5, hc5, hb5⟩
  have hS5 : w5.heap[p]? = some (.cells #[.int .i64 n, .map (some gm), vo] 56 (0, 0)) ∧ w5.heap[g3]? = some (.cells (kL k).toArray 33 (0, 0)) := ⟨(hb5.block p (Array.getElem?_eq_some_iff.1 hS.1).1).trans hS.1, (hb5.block g3 (Array.getElem?_eq_some_iff.1 hS.2).1).trans hS.2⟩
  refine ⟨hS5, ?_⟩
  simp only [List.setIfInBounds_toArray, List.set_cons_zero, List.set_cons_succ]
  refine nany_take 7 22 (.agg #[.int .i64 3, .slice a2 rn c2]) rfl rfl (by kernel_rfl) (by kernel_rfl) (by kernel_rfl) (fun _ _ _ h => h) (Or.inl ⟨by rfl, ?_⟩) hS5 ?_
  · rintro w' hS'
    go_simp
  simp only [List.setIfInBounds_toArray, List.set_cons_zero, List.set_cons_succ]
  have hb05 := HB4.out.trans (hb5.mono HB4.out.size)
  obtain ⟨W6, hup, S', hT6, hK6, ho6⟩ := TbX.ended HH.out HKO.out HF.out HC.out hb05 HRN.out (hy5.weak (fun b hb _ => Nat.le_trans HB4.out.size hb)) hc5.1
  have HUP := hid hup
  have HT6 := hid hT6
  have HK6 := hid hK6
  have hgm5 : g3 ≠ gm := fun e => by have e1 := HH.out.slt gm HH.out.sg; omega
  have hS6 : W6.heap[p]? = some (.cells #[.int .i64 n, .map (some gm), vo] 56 (0, 0)) ∧ W6.heap[g3]? = some (.cells (kL k).toArray 33 (0, 0)) := ⟨hT6.box, (ho6 g3 (Array.getElem?_eq_some_iff.1 hS5.2).1 hgm5).trans hS5.2⟩
  clear hup hT6 hK6 ho6
  refine nany_one 8 (by kernel_rfl) ?_
  refine nop_skip (w' := W6) rfl (by rfl) rfl (by unfold execOp; simp [Act.eval, HUP.out, Result.andThen]) ?_
  refine ⟨hS6, ?_⟩
  refine wpAnyH_done (by kernel_rfl) ?_ _
  clear hS hS5 hS6
  go_wp2
  go_ret
  exact ⟨S', by rw [HEC.out]; rfl, ⟨gm, vo, by rw [HEL.out]; exact HT6.out⟩, HK6.out⟩
/-- End, in both cases. -/
theorem End_any (w : World) (p : Nat) (S : Nat → Prop) (n : Nat) (L : Tl) (c : Nat) (h : TbAt w p S n L c) (k : Ky) (hk : k.Ok) (hcc : c < 1000000) (a : Option Addr) (rn rc : Nat) (r : List Int) (hrn : r.length = rn) (hrl : rn ≤ 900000) (hr : Bytes w a r) :
    Calls Try.prog 11 #[.pointer (some ⟨p, 0, none⟩), kV k, .slice a rn rc] w (EndPost w p S n L c k r) := by
  obtain ⟨gm, vo, h⟩ := h
  by_cases hf : fndT L k = some none
  · exact End_yes w p S n L c gm vo h k hk hf hcc a rn rc r hrn hrl hr
  · exact End_no w p S n L c gm vo h k hk hf a rn rc r
end Go.Proofs.Ythgmghfegaemkaa
