/- Over: a view over a base. -/
import Derived.Test.YtaplmlldmhdhoaaGreatDoorVfD
namespace Go.Proofs.YtaplmlldmhdhoaaGreatDoor
open Go.RowKit Go.Maps
set_option linter.unusedVariables false

set_option maxRecDepth 100000 in
set_option maxHeartbeats 1000000 in
theorem Over_any (w : World) (q N : Nat) (T : Nat → Prop) (bc : Nat → List Int) (lk : Nat → Bool) (h : Bs w q T N bc lk) (i : Int) (hp : PlanOk N i) (h0 : bc 0 = encL N i) :
    Calls Tryz.prog 30 #[.pointer (some ⟨q, 0, none⟩)] w fun e w' => ∃ pv, e = .returned (.pointer (some ⟨pv, 0, none⟩)) ∧ Vw w' pv (fun g => w.heap.size ≤ g ∧ g < w'.heap.size) N i (baseV q) 0 (fun _ => none) ∧ Below w.heap.size w w' := by
  have HI := hid (fun (W : World) (hb : Below w.heap.size w W) => Inodes_any W q N T bc lk (h.later hb) (by have := hp.b0; omega) (by have := hp.b1; omega) N i h0 (by have := hp.i0; omega) (by have := hp.i1; omega))
  have HC := Plan_any N i
  rw [supA_ok hp.e, hp.e] at HC
  unfold supC at HC
  replace HC := hid HC
  have HNV := hid (fun (W : World) => NewView_any W N i hp 74 (.pointer (some ⟨q, 0, none⟩)))
  unfold supC at HNV
  have HQ : Hid (∀ W, Below w.heap.size w W → W.cell? ⟨q, 0, none⟩ = w.cell? ⟨q, 0, none⟩) := hid (fun W hb => World.cell?_of_block (hb.block q (by obtain ⟨_, _, _, _, h1, _⟩ := h; exact (Array.getElem?_eq_some_iff.1 h1).1)))
  have q0 : ∃ gB, w.cell? ⟨q, 0, none⟩ = some (.slice (some ⟨gB, 0, none⟩) N N) := by obtain ⟨gB, _, _, _, h1, _⟩ := h; exact ⟨gB, cell_of h1 rfl⟩
  obtain ⟨gB, q0⟩ := q0
  have q0d : w.drew.cell? ⟨q, 0, none⟩ = some (.slice (some ⟨gB, 0, none⟩) N N) := q0
  have HID := hid (HI.out w.drew ((Below.refl _ w).drew))
  clear h
  go_enter Tryz.func30, Tryz.ntmps30
  go_upto_region 1 with fail
  go_cut [3, 4] from 5 to 15 (fun p e wc => ∃ g, p = .pointer (some ⟨g, 0, none⟩) ∧ e = n64 0 ∧ wc.heap[g]? = some (.cells #[n64 N, n64 i, n64 1, n64 2, n64 68, n64 69, n64 (planT N), n64 (planD N i)] 115 (0, 0)) ∧ Below w.heap.size w wc)
  case first =>
    have hS0 : w.drew.cell? ⟨q, 0, none⟩ = some (.slice (some ⟨gB, 0, none⟩) N N) := q0
    refine wp_region_held_drew (S := fun w' => w'.cell? ⟨q, 0, none⟩ = some (.slice (some ⟨gB, 0, none⟩) N N)) (by kernel_rfl) hS0 (fun hS => ?_)
    have hbd : Below w.heap.size w w.drew := (Below.refl _ w).drew
    refine nany_take 0 6 (.pointer (some ⟨q, 0, none⟩)) rfl rfl (by kernel_rfl) (by kernel_rfl) (by kernel_rfl) (fun _ _ _ h => h) (Or.inl ⟨by rfl, ?_⟩) hS ?_
    · rintro w' x0
      go_simp
    simp only [List.setIfInBounds_toArray, List.set_cons_zero, List.set_cons_succ]
    refine nany_take 1 7 (.pointer (some ⟨q, 0, none⟩)) rfl rfl (by kernel_rfl) (by kernel_rfl) (by kernel_rfl) (fun _ _ _ h => h) (Or.inl ⟨by rfl, ?_⟩) hS ?_
    · rintro w' x0
      go_simp
    simp only [List.setIfInBounds_toArray, List.set_cons_zero, List.set_cons_succ]
    refine nany_take 2 8 (.pointer (some ⟨q, 0, none⟩)) rfl rfl (by kernel_rfl) (by kernel_rfl) (by kernel_rfl) (fun _ _ _ h => h) (Or.inl ⟨by rfl, ?_⟩) hS ?_
    · rintro w' x0
      go_simp
    simp only [List.setIfInBounds_toArray, List.set_cons_zero, List.set_cons_succ]
    refine nany_take 3 9 (.slice (some ⟨gB, 0, none⟩) N N) rfl rfl (by kernel_rfl) (by kernel_rfl) (by kernel_rfl) (fun _ _ _ h => h) (Or.inl ⟨by rfl, ?_⟩) hS ?_
    · rintro w' x0
      go_simp
    simp only [List.setIfInBounds_toArray, List.set_cons_zero, List.set_cons_succ]
    refine nany_take 4 10 (.int .i64 N) rfl rfl (by kernel_rfl) (by kernel_rfl) (by kernel_rfl) (fun _ _ _ h => h) (Or.inl ⟨by rfl, ?_⟩) hS ?_
    · rintro w' x0
      go_simp
    simp only [List.setIfInBounds_toArray, List.set_cons_zero, List.set_cons_succ]
    refine nany_take 5 11 (.pointer (some ⟨q, 0, none⟩)) rfl rfl (by kernel_rfl) (by kernel_rfl) (by kernel_rfl) (fun _ _ _ h => h) (Or.inl ⟨by rfl, ?_⟩) hS ?_
    · rintro w' x0
      go_simp
    simp only [List.setIfInBounds_toArray, List.set_cons_zero, List.set_cons_succ]
    refine nany_two 6 11 (by kernel_rfl) ?_ ?_
    · skip
      refine nop_callE 12 (f := 53) (args := #[.pointer (some ⟨q, 0, none⟩)]) (R := fun v w' => v = n64 i ∧ Below w.drew.heap.size w.drew w') rfl (by rfl) rfl (by go_simp) ((HI.out w.drew hbd).mono (fun e w' h => ⟨_, h.1, rfl, h.2⟩)) ?_
      rintro v5 w5 ⟨rfl, hb5⟩
      have hB5 : Below w.heap.size w w5 := (hbd).trans (hb5.mono (hbd).size)
      clear hS
      have hS := (HQ.out w5 hB5).trans q0
      refine ⟨hS, ?_⟩
      simp only [List.setIfInBounds_toArray, List.set_cons_zero, List.set_cons_succ]
      refine nany_two 7 11 (by kernel_rfl) ?_ ?_
      · skip
        refine nop_callE 13 (f := 52) (args := #[.int .i64 N, n64 i]) (R := fun v w' => v = .tuple #[.agg #[n64 N, n64 i, n64 1, n64 2, n64 68, n64 69, n64 (planT N), n64 (planD N i)], n64 0] ∧ Below w5.heap.size w5 w') rfl (by rfl) rfl (by go_simp) ((HC.out w5).mono (fun e w' h => ⟨_, h.1, rfl, h.2⟩)) ?_
        rintro v6 w6 ⟨rfl, hb6⟩
        have hB6 : Below w.heap.size w w6 := (hB5).trans (hb6.mono (hB5).size)
        clear hS
        have hS := (HQ.out w6 hB6).trans q0
        refine ⟨hS, ?_⟩
        simp only [List.setIfInBounds_toArray, List.set_cons_zero, List.set_cons_succ]
        refine nany_take 8 5 (.tuple #[.agg #[n64 N, n64 i, n64 1, n64 2, n64 68, n64 69, n64 (planT N), n64 (planD N i)], n64 0]) rfl rfl (by kernel_rfl) (by kernel_rfl) (by kernel_rfl) (fun _ _ _ h => h) (Or.inl ⟨by rfl, ?_⟩) hS ?_
        · rintro w' x0
          go_simp
        simp only [List.setIfInBounds_toArray, List.set_cons_zero, List.set_cons_succ]
        refine nany_take 9 14 (.agg #[n64 N, n64 i, n64 1, n64 2, n64 68, n64 69, n64 (planT N), n64 (planD N i)]) rfl rfl (by kernel_rfl) (by kernel_rfl) (by kernel_rfl) (fun _ _ _ h => h) (Or.inl ⟨by rfl, ?_⟩) hS ?_
        · rintro w' x0
          go_simp
        simp only [List.setIfInBounds_toArray, List.set_cons_zero, List.set_cons_succ]
        refine nany_take 10 15 (n64 0) rfl rfl (by kernel_rfl) (by kernel_rfl) (by kernel_rfl) (fun _ _ _ h => h) (Or.inl ⟨by rfl, ?_⟩) hS ?_
        · rintro w' x0
          go_simp
        simp only [List.setIfInBounds_toArray, List.set_cons_zero, List.set_cons_succ]
        refine nany_one 11 (by kernel_rfl) ?_
        refine nop_value' 3 (v := .pointer (some ⟨w6.heap.size, 0, none⟩)) (w' := w6.alloc (.cells #[.int .i64 0, .int .i64 0, .int .i64 0, .int .i64 0, .int .i64 0, .int .i64 0, .int .i64 0, .int .i64 0] 115)) rfl (by rfl) rfl (by kernel_rfl) ?_
        obtain ⟨X6, hX6⟩ : ∃ X, X = w6.alloc (.cells #[.int .i64 0, .int .i64 0, .int .i64 0, .int .i64 0, .int .i64 0, .int .i64 0, .int .i64 0, .int .i64 0] 115) := ⟨_, rfl⟩
        have hzX6 : X6.heap[w6.heap.size]? = some (.cells #[.int .i64 0, .int .i64 0, .int .i64 0, .int .i64 0, .int .i64 0, .int .i64 0, .int .i64 0, .int .i64 0] 115 (0, 0)) := by rw [hX6]; exact alloc_new w6 _
        have hBX6 : Below w.heap.size w X6 := by rw [hX6]; exact (hB6).alloc (hB6).size _
        rw [← hX6]
        clear hS hX6
        have hS := (HQ.out X6 hBX6).trans q0
        refine ⟨hS, ?_⟩
        simp only [List.setIfInBounds_toArray, List.set_cons_zero, List.set_cons_succ]
        obtain ⟨z0, z1, z2, z3, z4, z5, z6, z7⟩ := cells8 hzX6
        have zf := fun k => froz_of hzX6 k
        refine nany_one 12 (by kernel_rfl) ?_
        refine nop_skip (w' := ((((((((X6.setCell ⟨w6.heap.size, 0, none⟩ (n64 N)).setCell ⟨w6.heap.size, 1, none⟩ (n64 i)).setCell ⟨w6.heap.size, 2, none⟩ (n64 1)).setCell ⟨w6.heap.size, 3, none⟩ (n64 2)).setCell ⟨w6.heap.size, 4, none⟩ (n64 68)).setCell ⟨w6.heap.size, 5, none⟩ (n64 69)).setCell ⟨w6.heap.size, 6, none⟩ (n64 (planT N))).setCell ⟨w6.heap.size, 7, none⟩ (n64 (planD N i)))) rfl (by rfl) rfl (by go_simp) ?_
        have hF := set8_heap hzX6 (n64 N) (n64 i) (n64 1) (n64 2) (n64 68) (n64 69) (n64 (planT N)) (n64 (planD N i))
        have hFB : Below w.heap.size w _ := set8_below hBX6 (show w.heap.size ≤ w6.heap.size by exact hB6.size) (n64 N) (n64 i) (n64 1) (n64 2) (n64 68) (n64 69) (n64 (planT N)) (n64 (planD N i))
        unfold set8 at hF hFB
        clear hS
        have hS := (HQ.out _ hFB).trans q0
        refine ⟨hS, ?_⟩
        refine nany_take 13 4 (n64 0) rfl rfl (by kernel_rfl) (by kernel_rfl) (by kernel_rfl) (fun _ _ _ h => h) (Or.inl ⟨by rfl, ?_⟩) hS ?_
        · rintro w' x0
          go_simp
        simp only [List.setIfInBounds_toArray, List.set_cons_zero, List.set_cons_succ]
        refine wpAnyH_done (by kernel_rfl) ?_ _
        have HF := hid hF
        have HFB := hid hFB
        clear hS hF hFB z0 z1 z2 z3 z4 z5 z6 z7 zf
        go_wp2_with fail
        go_meet
        exact ⟨_, rfl, rfl, HF.out, HFB.out⟩
      · skip
        refine nop_value' 3 (v := .pointer (some ⟨w5.heap.size, 0, none⟩)) (w' := w5.alloc (.cells #[.int .i64 0, .int .i64 0, .int .i64 0, .int .i64 0, .int .i64 0, .int .i64 0, .int .i64 0, .int .i64 0] 115)) rfl (by rfl) rfl (by kernel_rfl) ?_
        obtain ⟨X5, hX5⟩ : ∃ X, X = w5.alloc (.cells #[.int .i64 0, .int .i64 0, .int .i64 0, .int .i64 0, .int .i64 0, .int .i64 0, .int .i64 0, .int .i64 0] 115) := ⟨_, rfl⟩
        have hzX5 : X5.heap[w5.heap.size]? = some (.cells #[.int .i64 0, .int .i64 0, .int .i64 0, .int .i64 0, .int .i64 0, .int .i64 0, .int .i64 0, .int .i64 0] 115 (0, 0)) := by rw [hX5]; exact alloc_new w5 _
        have hBX5 : Below w.heap.size w X5 := by rw [hX5]; exact (hB5).alloc (hB5).size _
        rw [← hX5]
        clear hS hX5
        have hS := (HQ.out X5 hBX5).trans q0
        refine ⟨hS, ?_⟩
        simp only [List.setIfInBounds_toArray, List.set_cons_zero, List.set_cons_succ]
        refine nany_one 7 (by kernel_rfl) ?_
        refine nop_callE 13 (f := 52) (args := #[.int .i64 N, n64 i]) (R := fun v w' => v = .tuple #[.agg #[n64 N, n64 i, n64 1, n64 2, n64 68, n64 69, n64 (planT N), n64 (planD N i)], n64 0] ∧ Below X5.heap.size X5 w') rfl (by rfl) rfl (by go_simp) ((HC.out X5).mono (fun e w' h => ⟨_, h.1, rfl, h.2⟩)) ?_
        rintro v6 w6 ⟨rfl, hb6⟩
        have hz6 := (hb6.block _ (Array.getElem?_eq_some_iff.1 hzX5).1).trans hzX5
        have hB6 : Below w.heap.size w w6 := (hBX5).trans (hb6.mono (hBX5).size)
        clear hS
        have hS := (HQ.out w6 hB6).trans q0
        refine ⟨hS, ?_⟩
        simp only [List.setIfInBounds_toArray, List.set_cons_zero, List.set_cons_succ]
        refine nany_take 8 5 (.tuple #[.agg #[n64 N, n64 i, n64 1, n64 2, n64 68, n64 69, n64 (planT N), n64 (planD N i)], n64 0]) rfl rfl (by kernel_rfl) (by kernel_rfl) (by kernel_rfl) (fun _ _ _ h => h) (Or.inl ⟨by rfl, ?_⟩) hS ?_
        · rintro w' x0
          go_simp
        simp only [List.setIfInBounds_toArray, List.set_cons_zero, List.set_cons_succ]
        refine nany_take 9 14 (.agg #[n64 N, n64 i, n64 1, n64 2, n64 68, n64 69, n64 (planT N), n64 (planD N i)]) rfl rfl (by kernel_rfl) (by kernel_rfl) (by kernel_rfl) (fun _ _ _ h => h) (Or.inl ⟨by rfl, ?_⟩) hS ?_
        · rintro w' x0
          go_simp
        simp only [List.setIfInBounds_toArray, List.set_cons_zero, List.set_cons_succ]
        refine nany_take 10 15 (n64 0) rfl rfl (by kernel_rfl) (by kernel_rfl) (by kernel_rfl) (fun _ _ _ h => h) (Or.inl ⟨by rfl, ?_⟩) hS ?_
        · rintro w' x0
          go_simp
        simp only [List.setIfInBounds_toArray, List.set_cons_zero, List.set_cons_succ]
        obtain ⟨z0, z1, z2, z3, z4, z5, z6, z7⟩ := cells8 hz6
        have zf := fun k => froz_of hz6 k
        refine nany_one 12 (by kernel_rfl) ?_
        refine nop_skip (w' := ((((((((w6.setCell ⟨w5.heap.size, 0, none⟩ (n64 N)).setCell ⟨w5.heap.size, 1, none⟩ (n64 i)).setCell ⟨w5.heap.size, 2, none⟩ (n64 1)).setCell ⟨w5.heap.size, 3, none⟩ (n64 2)).setCell ⟨w5.heap.size, 4, none⟩ (n64 68)).setCell ⟨w5.heap.size, 5, none⟩ (n64 69)).setCell ⟨w5.heap.size, 6, none⟩ (n64 (planT N))).setCell ⟨w5.heap.size, 7, none⟩ (n64 (planD N i)))) rfl (by rfl) rfl (by go_simp) ?_
        have hF := set8_heap hz6 (n64 N) (n64 i) (n64 1) (n64 2) (n64 68) (n64 69) (n64 (planT N)) (n64 (planD N i))
        have hFB : Below w.heap.size w _ := set8_below hB6 (show w.heap.size ≤ w5.heap.size by exact hB5.size) (n64 N) (n64 i) (n64 1) (n64 2) (n64 68) (n64 69) (n64 (planT N)) (n64 (planD N i))
        unfold set8 at hF hFB
        clear hS
        have hS := (HQ.out _ hFB).trans q0
        refine ⟨hS, ?_⟩
        refine nany_take 13 4 (n64 0) rfl rfl (by kernel_rfl) (by kernel_rfl) (by kernel_rfl) (fun _ _ _ h => h) (Or.inl ⟨by rfl, ?_⟩) hS ?_
        · rintro w' x0
          go_simp
        simp only [List.setIfInBounds_toArray, List.set_cons_zero, List.set_cons_succ]
        refine wpAnyH_done (by kernel_rfl) ?_ _
        have HF := hid hF
        have HFB := hid hFB
        clear hS hF hFB z0 z1 z2 z3 z4 z5 z6 z7 zf
        go_wp2_with fail
        go_meet
        exact ⟨_, rfl, rfl, HF.out, HFB.out⟩
    · skip
      refine nop_value' 3 (v := .pointer (some ⟨w.heap.size, 0, none⟩)) (w' := w.drew.alloc (.cells #[.int .i64 0, .int .i64 0, .int .i64 0, .int .i64 0, .int .i64 0, .int .i64 0, .int .i64 0, .int .i64 0] 115)) rfl (by rfl) rfl (by kernel_rfl) ?_
      obtain ⟨X5, hX5⟩ : ∃ X, X = w.drew.alloc (.cells #[.int .i64 0, .int .i64 0, .int .i64 0, .int .i64 0, .int .i64 0, .int .i64 0, .int .i64 0, .int .i64 0] 115) := ⟨_, rfl⟩
      have hzX5 : X5.heap[w.heap.size]? = some (.cells #[.int .i64 0, .int .i64 0, .int .i64 0, .int .i64 0, .int .i64 0, .int .i64 0, .int .i64 0, .int .i64 0] 115 (0, 0)) := by rw [hX5]; exact alloc_new w.drew _
      have hBX5 : Below w.heap.size w X5 := by rw [hX5]; exact (hbd).alloc (hbd).size _
      rw [← hX5]
      clear hS hX5
      have hS := (HQ.out X5 hBX5).trans q0
      refine ⟨hS, ?_⟩
      simp only [List.setIfInBounds_toArray, List.set_cons_zero, List.set_cons_succ]
      refine nany_one 6 (by kernel_rfl) ?_
      refine nop_callE 12 (f := 53) (args := #[.pointer (some ⟨q, 0, none⟩)]) (R := fun v w' => v = n64 i ∧ Below X5.heap.size X5 w') rfl (by rfl) rfl (by go_simp) ((HI.out X5 hBX5).mono (fun e w' h => ⟨_, h.1, rfl, h.2⟩)) ?_
      rintro v5 w5 ⟨rfl, hb5⟩
      have hz5 := (hb5.block _ (Array.getElem?_eq_some_iff.1 hzX5).1).trans hzX5
      have hB5 : Below w.heap.size w w5 := (hBX5).trans (hb5.mono (hBX5).size)
      clear hS
      have hS := (HQ.out w5 hB5).trans q0
      refine ⟨hS, ?_⟩
      simp only [List.setIfInBounds_toArray, List.set_cons_zero, List.set_cons_succ]
      refine nany_one 7 (by kernel_rfl) ?_
      refine nop_callE 13 (f := 52) (args := #[.int .i64 N, n64 i]) (R := fun v w' => v = .tuple #[.agg #[n64 N, n64 i, n64 1, n64 2, n64 68, n64 69, n64 (planT N), n64 (planD N i)], n64 0] ∧ Below w5.heap.size w5 w') rfl (by rfl) rfl (by go_simp) ((HC.out w5).mono (fun e w' h => ⟨_, h.1, rfl, h.2⟩)) ?_
      rintro v6 w6 ⟨rfl, hb6⟩
      have hz6 := (hb6.block _ (Array.getElem?_eq_some_iff.1 hz5).1).trans hz5
      have hB6 : Below w.heap.size w w6 := (hB5).trans (hb6.mono (hB5).size)
      clear hS
      have hS := (HQ.out w6 hB6).trans q0
      refine ⟨hS, ?_⟩
      simp only [List.setIfInBounds_toArray, List.set_cons_zero, List.set_cons_succ]
      refine nany_take 8 5 (.tuple #[.agg #[n64 N, n64 i, n64 1, n64 2, n64 68, n64 69, n64 (planT N), n64 (planD N i)], n64 0]) rfl rfl (by kernel_rfl) (by kernel_rfl) (by kernel_rfl) (fun _ _ _ h => h) (Or.inl ⟨by rfl, ?_⟩) hS ?_
      · rintro w' x0
        go_simp
      simp only [List.setIfInBounds_toArray, List.set_cons_zero, List.set_cons_succ]
      refine nany_take 9 14 (.agg #[n64 N, n64 i, n64 1, n64 2, n64 68, n64 69, n64 (planT N), n64 (planD N i)]) rfl rfl (by kernel_rfl) (by kernel_rfl) (by kernel_rfl) (fun _ _ _ h => h) (Or.inl ⟨by rfl, ?_⟩) hS ?_
      · rintro w' x0
        go_simp
      simp only [List.setIfInBounds_toArray, List.set_cons_zero, List.set_cons_succ]
      refine nany_take 10 15 (n64 0) rfl rfl (by kernel_rfl) (by kernel_rfl) (by kernel_rfl) (fun _ _ _ h => h) (Or.inl ⟨by rfl, ?_⟩) hS ?_
      · rintro w' x0
        go_simp
      simp only [List.setIfInBounds_toArray, List.set_cons_zero, List.set_cons_succ]
      obtain ⟨z0, z1, z2, z3, z4, z5, z6, z7⟩ := cells8 hz6
      have zf := fun k => froz_of hz6 k
      refine nany_one 12 (by kernel_rfl) ?_
      refine nop_skip (w' := ((((((((w6.setCell ⟨w.heap.size, 0, none⟩ (n64 N)).setCell ⟨w.heap.size, 1, none⟩ (n64 i)).setCell ⟨w.heap.size, 2, none⟩ (n64 1)).setCell ⟨w.heap.size, 3, none⟩ (n64 2)).setCell ⟨w.heap.size, 4, none⟩ (n64 68)).setCell ⟨w.heap.size, 5, none⟩ (n64 69)).setCell ⟨w.heap.size, 6, none⟩ (n64 (planT N))).setCell ⟨w.heap.size, 7, none⟩ (n64 (planD N i)))) rfl (by rfl) rfl (by go_simp) ?_
      have hF := set8_heap hz6 (n64 N) (n64 i) (n64 1) (n64 2) (n64 68) (n64 69) (n64 (planT N)) (n64 (planD N i))
      have hFB : Below w.heap.size w _ := set8_below hB6 (show w.heap.size ≤ w.heap.size by exact Nat.le_refl _) (n64 N) (n64 i) (n64 1) (n64 2) (n64 68) (n64 69) (n64 (planT N)) (n64 (planD N i))
      unfold set8 at hF hFB
      clear hS
      have hS := (HQ.out _ hFB).trans q0
      refine ⟨hS, ?_⟩
      refine nany_take 13 4 (n64 0) rfl rfl (by kernel_rfl) (by kernel_rfl) (by kernel_rfl) (fun _ _ _ h => h) (Or.inl ⟨by rfl, ?_⟩) hS ?_
      · rintro w' x0
        go_simp
      simp only [List.setIfInBounds_toArray, List.set_cons_zero, List.set_cons_succ]
      refine wpAnyH_done (by kernel_rfl) ?_ _
      have HF := hid hF
      have HFB := hid hFB
      clear hS hF hFB z0 z1 z2 z3 z4 z5 z6 z7 zf
      go_wp2_with fail
      go_meet
      exact ⟨_, rfl, rfl, HF.out, HFB.out⟩
  case rest =>
    obtain ⟨g, rfl, rfl, hg, hb⟩ := hcut
    rename World => V
    obtain ⟨d0, d1, d2, d3, d4, d5, d6, d7⟩ := cells8 hg
    have HB := hid hb
    have HN := hid (HNV.out V)
    clear hg hb HNV HC HI HQ HID
    go_wp2_with fail
    refine HN.out.mono ?_
    rintro e w7 ⟨pv, rfl, hv, hb7⟩
    have HV := hid hv
    have HB7 := hid hb7
    clear hv hb7 HN
    go_wp2
    go_ret
    exact ⟨pv, rfl, HV.out.weak (fun g hg _ => ⟨Nat.le_trans HB.out.size hg.1, hg.2⟩), HB.out.trans (HB7.out.mono HB.out.size)⟩
end Go.Proofs.YtaplmlldmhdhoaaGreatDoor
