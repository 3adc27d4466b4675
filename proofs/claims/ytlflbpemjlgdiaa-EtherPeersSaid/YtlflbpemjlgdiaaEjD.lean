/- The document's messages: arp. -/
import Derived.Test.YtlflbpemjlgdiaaEjC
namespace Go.Proofs.Ytlflbpemjlgdiaa
open Go.RowKit Go.Maps
set_option linter.unusedVariables false

theorem wrap_u32 {i : Int} (h : IsU i) : IntKind.u64.wrap i = i := IntWalk.u64_in _ (by unfold IsU at h; omega)
set_option maxRecDepth 100000 in
set_option maxHeartbeats 2000000 in
theorem arp_any (w : World) (op : Int) (sm : Mac) (si : Int) (tm : Mac) (ti : Int) (hop : 0 ≤ op ∧ op < 65536) (hsm : sm.ok) (hsi : IsU si) (htm : tm.ok) (hti : IsU ti) :
    Calls Try.prog 36 #[.int .i64 op, .agg (macC sm), .int .u32 si, .agg (macC tm), .int .u32 ti] w fun e w' => ∃ a c, e = .returned (.slice a 28 c) ∧ By w' (New w) a (arpL op sm si tm ti) ∧ 28 ≤ c ∧ Below w.heap.size w w' := by
  obtain ⟨g6, hg6⟩ : ∃ g, w.heap.size = g := ⟨_, rfl⟩
  obtain ⟨W1, hW1⟩ : ∃ W, W = w.alloc (.cells (macC sm) 23) := ⟨_, rfl⟩
  have b1 : Below w.heap.size w W1 := by rw [hW1]; exact below_alloc (Below.refl _ _) (Nat.le_refl _) _
  have h16 : W1.heap[g6]? = some (.cells (macC sm) 23 (0, 0)) := by rw [hW1, ← hg6]; exact alloc_new w _
  obtain ⟨g8, hg8⟩ : ∃ g, W1.heap.size = g := ⟨_, rfl⟩
  obtain ⟨W2, hW2⟩ : ∃ W, W = W1.alloc (.cells (macC tm) 23) := ⟨_, rfl⟩
  have b12 : Below W1.heap.size W1 W2 := by rw [hW2]; exact below_alloc (Below.refl _ _) (Nat.le_refl _) _
  have h28 : W2.heap[g8]? = some (.cells (macC tm) 23 (0, 0)) := by rw [hW2, ← hg8]; exact alloc_new W1 _
  have h26 := (b12.block g6 (Array.getElem?_eq_some_iff.1 h16).1).trans h16
  have hB2 := b1.trans (b12.mono b1.size)
  obtain ⟨g3, hg3⟩ : ∃ g, W2.heap.size = g := ⟨_, rfl⟩
  obtain ⟨W3, hW3⟩ : ∃ W, W = W2.alloc (.cells #[.int .u8 0, .int .u8 1, .int .u8 8, .int .u8 0, .int .u8 6, .int .u8 4] 5) := ⟨_, rfl⟩
  have b23 : Below W2.heap.size W2 W3 := by rw [hW3]; exact below_alloc (Below.refl _ _) (Nat.le_refl _) _
  have hgr : Gr W3 W2.heap.size (.slice (some ⟨g3, 0, none⟩) 6 6) headM.l := by rw [hW3, ← hg3]; exact Gr.of_const W2 _ headM.l 6 (0, 0) rfl headM_ok
  have HHI := hid (High_any W3 W2.heap.size _ headM.l hgr b23.size 2 2 op rfl (by omega) hop.1 (by omega) (by rw [Mac.len]; omega))
  have wop : IntKind.u64.wrap op = op := IntWalk.u64_in _ (by omega)
  have wsi := wrap_u32 hsi
  have wti := wrap_u32 hti
  have H26 := hid h26
  have H28 := hid h28
  have HB2 := hid hB2
  have HB23 := hid b23
  have HSM := hid hsm
  have HTM := hid htm
  have HSI := hid hsi
  have HTI := hid hti
  have HW := hW1.symm
  have HV := hW2.symm
  have HU := hW3.symm
  clear hW1 hW2 hW3 b1 b12 b23 h16 h28 h26 hB2 hgr hop hsm hsi htm hti
  go_enter Try.func36, Try.ntmps36
  go_wp2_with fail
  refine HHI.out.mono ?_
  rintro e w4 ⟨a4, c4, rfl, hgo4, hb4⟩
  have hx4 := HB23.out.trans hb4
  have h46 := (hx4.block g6 (Array.getElem?_eq_some_iff.1 H26.out).1).trans H26.out
  have HP1 := hid (put_any w4 W2.heap.size _ _ sm HSM.out hgo4.gr hx4.size (fun g hg => (owns_lt hgo4.2 hg).1) (by simp [Mac.len, len_be]))
  have HX4 := hid hx4
  have H46 := hid h46
  clear hgo4 hb4 hx4 h46 HHI
  go_wp2_with (refine wpList_load_row rfl 23 _ rfl g6 rfl 23 _ (0, 0) _ H46.out Try.underlying23 rfl size6 ?_)
  refine HP1.out.mono ?_
  rintro e w5 ⟨a5, c5, rfl, hgo5, hb5⟩
  have hx5 := HX4.out.trans hb5
  have HH2 := hid (High_any w5 W2.heap.size _ _ hgo5.gr hx5.size 4 4 si rfl (by omega) (by have := HSI.out; unfold IsU at this; omega) (by have := HSI.out; unfold IsU at this; omega) (by simp [Mac.len, len_be]))
  have HX5 := hid hx5
  clear hgo5 hb5 hx5 HP1
  go_wp2_with fail
  refine HH2.out.mono ?_
  rintro e w6 ⟨a6, c6, rfl, hgo6, hb6⟩
  have hx6 := HX5.out.trans hb6
  have h68 := (hx6.block g8 (Array.getElem?_eq_some_iff.1 H28.out).1).trans H28.out
  have HP2 := hid (put_any w6 W2.heap.size _ _ tm HTM.out hgo6.gr hx6.size (fun g hg => (owns_lt hgo6.2 hg).1) (by simp [Mac.len, len_be]))
  have HX6 := hid hx6
  have H68 := hid h68
  clear hgo6 hb6 hx6 h68 HH2
  go_wp2_with (refine wpList_load_row rfl 23 _ rfl g8 rfl 23 _ (0, 0) _ H68.out Try.underlying23 rfl size6 ?_)
  refine HP2.out.mono ?_
  rintro e w7 ⟨a7, c7, rfl, hgo7, hb7⟩
  have hx7 := HX6.out.trans hb7
  have HH3 := hid (High_any w7 W2.heap.size _ _ hgo7.gr hx7.size 4 4 ti rfl (by omega) (by have := HTI.out; unfold IsU at this; omega) (by have := HTI.out; unfold IsU at this; omega) (by simp [Mac.len, len_be]))
  have HX7 := hid hx7
  clear hgo7 hb7 hx7 HP2
  go_wp2_with fail
  refine HH3.out.mono ?_
  rintro e w8 ⟨a8, c8, rfl, hgo8, hb8⟩
  have hx8 := HX7.out.trans hb8
  have e8 : headM.l ++ bytesBe 2 op ++ sm.l ++ bytesBe 4 si ++ tm.l ++ bytesBe 4 ti = arpL op sm si tm ti := by simp [arpL]
  rw [e8] at hgo8
  obtain ⟨a9, c9, e9, hc9, hy9⟩ := hgo8.by_ (S := New W2) (fun x hx => hx)
  rw [arpL_len] at e9 hc9
  have HY := hid (hy9.weak (S' := New w) (fun x hx _ => Nat.le_trans HB2.out.size hx))
  have HC := hid hc9
  have HB8 := hid (HB2.out.trans (hx8.mono HB2.out.size))
  rw [e9]
  clear hgo8 hb8 hx8 e8 hc9 hy9 HH3 e9
  go_wp2
  go_ret
  exact ⟨a9, c9, rfl, HY.out, HC.out, by first | exact HB8.out | (have hz := HB8.out; rw [hg6] at hz; exact hz)⟩
end Go.Proofs.Ytlflbpemjlgdiaa
