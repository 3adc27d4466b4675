/- Tables of calls: Begin. -/
import Derived.Test.YthgmghfegaemkaaQbC
namespace Go.Proofs.Ythgmghfegaemkaa
open Go.RowKit Go.Maps
set_option linter.unusedVariables false

/-- What Begin gives and leaves. -/
def BeginPost (w : World) (p : Nat) (S : Nat → Prop) (n : Nat) (L : Tl) (c : Nat) (k : Ky) (e : Ending) (w' : World) : Prop :=
  ∃ a cc S', e = .returned (.tuple #[.int .i64 (beC n L k), .slice a (beR L k).length cc]) ∧ By w' (fun b => w.heap.size ≤ b ∧ ¬ S' b) a (beR L k) ∧ (RW w' 5 1 (.slice a (beR L k).length cc) (beR L k).length (u8s (beR L k)) ∧ ∀ b, blkV (.slice a (beR L k).length cc) = some b → w.heap.size ≤ b ∧ ¬ S' b) ∧ TbAt w' p S' n (beL n L k) (c + 1) ∧ Kp S w S' w'

set_option maxRecDepth 100000 in
set_option maxHeartbeats 2000000 in
theorem Begin_known (w : World) (p : Nat) (S : Nat → Prop) (n : Nat) (L : Tl) (c gm : Nat) (vo : Value) (h : TbX w p S n L c gm vo) (k : Ky) (hk : k.Ok) (o : Option (List Int)) (hf : fndT L k = some o) (hbig : ∀ l, o = some l → l.length ≤ 900000) :
    Calls Try.prog 8 #[.pointer (some ⟨p, 0, none⟩), kV k] w (BeginPost w p S n L c k) := by
  obtain ⟨g3, hg3⟩ : ∃ g, w.heap.size = g := ⟨_, rfl⟩
  obtain ⟨W1, hW1⟩ : ∃ W, W = w.alloc (.cells (kL k).toArray 33) := ⟨_, rfl⟩
  have b1 : Below w.heap.size w W1 := by rw [hW1]; exact below_alloc (Below.refl _ _) (Nat.le_refl _) _
  have h1 := h.later b1
  have hg1 : W1.heap[g3]? = some (.cells (kL k).toArray 33 (0, 0)) := by rw [hW1, ← hg3]; exact alloc_new w _
  obtain ⟨M, hM, hT⟩ := h1.mp
  obtain ⟨es, cl, hmk⟩ := hM.kind
  obtain ⟨ra, rc, hMk, hBy, hrc⟩ := hT.got hk hf
  obtain ⟨l, hl⟩ : ∃ l, o.getD [] = l := ⟨_, rfl⟩
  have hll : l.length ≤ 900000 := by
    cases o with
    | none => rw [← hl]; simp
    | some x => rw [← hl]; exact hbig x rfl
  obtain ⟨rn, hrn⟩ : ∃ rn, l.length = rn := ⟨_, rfl⟩
  obtain ⟨eC, eR, eL⟩ := beC_known (n := n) hf
  obtain ⟨st, hst⟩ : ∃ st, stI (some o) = st := ⟨_, rfl⟩
  rw [hl, hst, hrn] at hMk
  rw [hl] at hBy hrc eR
  rw [hst] at eC
  have HM1 := hid hmk
  have HBY : Hid (By w S ra l) := hid (by
    obtain ⟨M0, hM0, hT0⟩ := h.mp
    refine ⟨hBy.1, fun hp => ?_⟩
    obtain ⟨b, off, cur, fr, e, hs, hh, hc⟩ := hBy.2 hp
    exact ⟨b, off, cur, fr, e, hs, (b1.block b (h.slt b hs)).symm.trans hh, hc⟩)
  have HLK : Hid (∀ W : World, W.heap[gm]? = W1.heap[gm]? → (Instr.lookup 54 (.map (some gm)) (kV k) true).run Try.prog W = .ok (.tuple #[.agg #[.int .i64 st, .slice ra rn rc], .bool true]) W) := hid (fun W hW => by
    have := (hM.keep hW).look_ok Try.underlying54 (zeroPr W) hk
    rw [hMk] at this
    exact this)
  have HP1 := hid h1.box
  have HG1 := hid hg1
  have HB1 := hid b1
  have HH := hid h
  have HKO := hid hk
  have HF := hid hf
  have HBG := hid hbig
  have HW := hW1.symm
  have hgml : gm < W1.heap.size := (Array.getElem?_eq_some_iff.1 hmk).1
  have hg3l : g3 < W1.heap.size := (Array.getElem?_eq_some_iff.1 hg1).1
  have hpl : p < W1.heap.size := (Array.getElem?_eq_some_iff.1 h1.box).1
  obtain ⟨g6, hg6⟩ : ∃ g, W1.heap.size = g := ⟨_, rfl⟩
  have HAL : Hid (∀ W0 : World, W0.heap = W1.heap → ∃ W2 W3, W2 = W0.alloc (.cells #[.int .i64 0, .slice none 0 0] 58) ∧ W0.heap.size = g6 ∧ W2.heap[g6]? = some (.cells #[.int .i64 0, .slice none 0 0] 58 (0, 0)) ∧ W3 = W2.setRow g6 #[.int .i64 st, .slice ra rn rc] ∧ W3.heap[g6]? = some (.cells #[.int .i64 st, .slice ra rn rc] 58 (0, 0)) ∧ ∀ b, b < g6 → W2.heap[b]? = W1.heap[b]? ∧ W3.heap[b]? = W1.heap[b]?) := hid (fun W0 h0 => by
    have hsz : W0.heap.size = g6 := by rw [h0, hg6]
    have h26 : (W0.alloc (.cells #[.int .i64 0, .slice none 0 0] 58)).heap[g6]? = some (.cells #[.int .i64 0, .slice none 0 0] 58 (0, 0)) := by rw [← hsz]; exact alloc_new W0 _
    have b12 : Below W0.heap.size W0 (W0.alloc (.cells #[.int .i64 0, .slice none 0 0] 58)) := below_alloc (Below.refl _ _) (Nat.le_refl _) _
    refine ⟨_, _, rfl, hsz, h26, rfl, setRow_heap _ _ _ _ _ _ h26, fun b hb => ?_⟩
    have e1 := b12.block b (by omega)
    rw [h0] at e1
    exact ⟨e1, by rw [setRow_other _ _ _ _ (by omega)]; exact e1⟩)
  clear hW1 b1 h1 hg1 h hk hf hbig hM hT hMk hmk
  go_enter Try.func8, Try.ntmps8
  go_upto_region 1 with fail
  refine wp_region_held_drew (S := fun W => W.heap[p]? = some (.cells #[.int .i64 n, .map (some gm), vo] 56 (0, 0)) ∧ W.heap[g3]? = some (.cells (kL k).toArray 33 (0, 0)) ∧ W.heap[gm]? = some (.map es cl)) (by kernel_rfl) ⟨HP1.out, HG1.out, HM1.out⟩ (fun hS => ?_)
  refine nany_take 0 9 (.pointer (some ⟨p, 0, none⟩)) rfl rfl (by kernel_rfl) (by kernel_rfl) (by kernel_rfl) (fun _ _ _ h => h) (Or.inl ⟨by rfl, ?_⟩) hS ?_
  · rintro w' hS'
    go_simp
  simp only [List.setIfInBounds_toArray, List.set_cons_zero, List.set_cons_succ]
  refine nany_take 1 10 (.pointer (some ⟨p, 0, none⟩)) rfl rfl (by kernel_rfl) (by kernel_rfl) (by kernel_rfl) (fun _ _ _ h => h) (Or.inl ⟨by rfl, ?_⟩) hS ?_
  · rintro w' hS'
    go_simp
  simp only [List.setIfInBounds_toArray, List.set_cons_zero, List.set_cons_succ]
  refine nany_take 2 11 (.pointer (some ⟨p, 1, none⟩)) rfl rfl (by kernel_rfl) (by kernel_rfl) (by kernel_rfl) (fun _ _ _ h => h) (Or.inl ⟨by rfl, ?_⟩) hS ?_
  · rintro w' hS'
    go_simp
  simp only [List.setIfInBounds_toArray, List.set_cons_zero, List.set_cons_succ]
  refine nany_take 3 12 (.map (some gm)) rfl rfl (by kernel_rfl) (by kernel_rfl) (by kernel_rfl) (fun _ _ _ h => h) (Or.inl ⟨by rfl, ?_⟩) hS ?_
  · rintro w' hS'
    have hc := cell_of hS'.1 (i := 1) (v := .map (some gm)) rfl; go_simp
  simp only [List.setIfInBounds_toArray, List.set_cons_zero, List.set_cons_succ]
  refine nany_take 4 13 (kV k) rfl rfl (by kernel_rfl) (by kernel_rfl) (by kernel_rfl) (fun _ _ _ h => h) (Or.inl ⟨by rfl, ?_⟩) hS ?_
  · rintro w' hS'
    have k0 := cell_of hS'.2.1 (i := 0) (v := .int .u32 k.ip) rfl; have k1 := cell_of hS'.2.1 (i := 1) (v := .int .i64 k.port) rfl; have k2 := cell_of hS'.2.1 (i := 2) (v := .int .u32 k.xid) rfl; have k3 := cell_of hS'.2.1 (i := 3) (v := .int .u32 k.proc) rfl; have k4 := cell_of hS'.2.1 (i := 4) (v := .int .u32 k.sum) rfl; go_simp
  simp only [List.setIfInBounds_toArray, List.set_cons_zero, List.set_cons_succ]
  refine nany_take 5 14 (.tuple #[.agg #[.int .i64 st, .slice ra rn rc], .bool true]) rfl rfl (by kernel_rfl) (by kernel_rfl) (by kernel_rfl) (fun _ _ _ h => h) (Or.inl ⟨by rfl, ?_⟩) hS ?_
  · rintro w' hS'
    have hlk := HLK.out w' (hS'.2.2.trans HM1.out.symm); go_simp
  simp only [List.setIfInBounds_toArray, List.set_cons_zero, List.set_cons_succ]
  refine nany_take 6 8 (.tuple #[.agg #[.int .i64 st, .slice ra rn rc], .bool true]) rfl rfl (by kernel_rfl) (by kernel_rfl) (by kernel_rfl) (fun _ _ _ h => h) (Or.inl ⟨by rfl, ?_⟩) hS ?_
  · rintro w' hS'
    go_simp
  simp only [List.setIfInBounds_toArray, List.set_cons_zero, List.set_cons_succ]
  refine nany_take 7 15 (.agg #[.int .i64 st, .slice ra rn rc]) rfl rfl (by kernel_rfl) (by kernel_rfl) (by kernel_rfl) (fun _ _ _ h => h) (Or.inl ⟨by rfl, ?_⟩) hS ?_
  · rintro w' hS'
    go_simp
  simp only [List.setIfInBounds_toArray, List.set_cons_zero, List.set_cons_succ]
  obtain ⟨W0, hW0⟩ : ∃ W, W = W1.drew := ⟨_, rfl⟩
  have HZ := hid (HAL.out W0 (by rw [hW0]; rfl))
  rw [← hW0] at hS ⊢
  obtain ⟨W2, W3, hW2, hs2, h26, hW3, h36, hoth⟩ := HZ.out
  have A2 := hid (show W2.heap[p]? = _ ∧ W2.heap[g3]? = _ ∧ W2.heap[gm]? = _ from ⟨((hoth p (by omega)).1).trans HP1.out, ((hoth g3 (by omega)).1).trans HG1.out, ((hoth gm (by omega)).1).trans HM1.out⟩)
  have A3 := hid (show W3.heap[p]? = _ ∧ W3.heap[g3]? = _ ∧ W3.heap[gm]? = _ from ⟨((hoth p (by omega)).2).trans HP1.out, ((hoth g3 (by omega)).2).trans HG1.out, ((hoth gm (by omega)).2).trans HM1.out⟩)
  have H36 := hid h36
  have H26 := hid h26
  have HOT := hid hoth
  have HW3 := hid hW3
  clear h36 h26 hoth hW3
  refine nany_take 8 16 (.bool true) rfl rfl (by kernel_rfl) (by kernel_rfl) (by kernel_rfl) (fun _ _ _ h => h) (Or.inl ⟨by rfl, ?_⟩) hS ?_
  · rintro w' hS'
    go_simp
  simp only [List.setIfInBounds_toArray, List.set_cons_zero, List.set_cons_succ]
  refine nany_one 9 (by kernel_rfl) ?_
  refine nop_value' 6 (v := .pointer (some ⟨g6, 0, none⟩)) (w' := W2) rfl (by rfl) rfl (by rw [hW2, ← hs2]; go_simp) ?_
  refine ⟨A2.out, ?_⟩
  simp only [List.setIfInBounds_toArray, List.set_cons_zero, List.set_cons_succ]
  refine nany_one 10 (by kernel_rfl) ?_
  refine nop_skip (w' := W3) rfl (by rfl) rfl (by rw [HW3.out]; exact ex_store 58 (.tmp 6) (.tmp 15) rfl g6 #[.int .i64 st, .slice ra rn rc] rfl rfl 58 _ H26.out sizePr rfl (by simp [Value.oneCell'])) ?_
  refine ⟨A3.out, ?_⟩
  refine nany_take 11 7 (.bool true) rfl rfl (by kernel_rfl) (by kernel_rfl) (by kernel_rfl) (fun _ _ _ h => h) (Or.inl ⟨by rfl, ?_⟩) A3.out ?_
  · rintro w' hS'
    go_simp
  simp only [List.setIfInBounds_toArray, List.set_cons_zero, List.set_cons_succ]
  refine wpAnyH_done (by kernel_rfl) ?_ _
  clear hS
  go_upto_region 3 with fail
  have hB3 : Below w.heap.size w W3 := ⟨by rw [HW3.out, hW2, hW0]; exact HB1.out.os, by rw [HW3.out, hW2, hW0]; exact HB1.out.tape, by rw [HW3.out, hW2, hW0]; exact HB1.out.output, by have e1 := HB1.out.size; have e2 := (Array.getElem?_eq_some_iff.1 H36.out).1; omega, fun b hb => ((HOT.out b (by have := HB1.out.size; omega)).2).trans (HB1.out.block b hb)⟩
  have HB3 := hid hB3
  have HY3 := hid ((HBY.out.later hB3).bytes)
  clear hB3
  refine wp_region_held_drew (S := fun W => W.heap[g6]? = some (.cells #[.int .i64 st, .slice ra rn rc] 58 (0, 0))) (by kernel_rfl) H36.out (fun hS => ?_)
  obtain ⟨W4, hW4⟩ : ∃ W, W = W3.drew := ⟨_, rfl⟩
  rw [← hW4] at hS ⊢
  have HB4 : Hid (Below w.heap.size w W4) := hid (by rw [hW4]; exact HB3.out.drew)
  have HCL := hid (CloneB_any W4 ra rn rc l hrn (by rw [← hrn]; exact hll) ((HBY.out.later HB4.out).bytes))
  refine nany_take 0 18 (.pointer (some ⟨g6, 0, none⟩)) rfl rfl (by kernel_rfl) (by kernel_rfl) (by kernel_rfl) (fun _ _ _ h => h) (Or.inl ⟨by rfl, ?_⟩) hS ?_
  · rintro w' hS'
    go_simp
  simp only [List.setIfInBounds_toArray, List.set_cons_zero, List.set_cons_succ]
  refine nany_take 1 19 (.int .i64 st) rfl rfl (by kernel_rfl) (by kernel_rfl) (by kernel_rfl) (fun _ _ _ h => h) (Or.inl ⟨by rfl, ?_⟩) hS ?_
  · rintro w' hS'
    have hc := cell_of hS' (i := 0) (v := .int .i64 st) rfl; go_simp
  simp only [List.setIfInBounds_toArray, List.set_cons_zero, List.set_cons_succ]
  refine nany_take 2 20 (.pointer (some ⟨g6, 1, none⟩)) rfl rfl (by kernel_rfl) (by kernel_rfl) (by kernel_rfl) (fun _ _ _ h => h) (Or.inl ⟨by rfl, ?_⟩) hS ?_
  · rintro w' hS'
    go_simp
  simp only [List.setIfInBounds_toArray, List.set_cons_zero, List.set_cons_succ]
  refine nany_take 3 21 (.slice ra rn rc) rfl rfl (by kernel_rfl) (by kernel_rfl) (by kernel_rfl) (fun _ _ _ h => h) (Or.inl ⟨by rfl, ?_⟩) hS ?_
  · rintro w' hS'
    have hc := cell_of hS' (i := 1) (v := .slice ra rn rc) rfl; go_simp
  simp only [List.setIfInBounds_toArray, List.set_cons_zero, List.set_cons_succ]
  refine nany_one 4 (by kernel_rfl) ?_
  refine nop_callE 22 (f := 14) (args := #[.slice ra rn rc]) (R := fun v w' => ∃ a2 c2, v = .slice a2 rn c2 ∧ By w' (New W4) a2 l ∧ (rn ≤ c2 ∧ RW w' 5 1 (.slice a2 rn c2) rn (u8s l) ∧ ∀ b, blkV (.slice a2 rn c2) = some b → W4.heap.size ≤ b) ∧ Below W4.heap.size W4 w') rfl (by rfl) rfl (by go_simp) (HCL.out.mono (fun e w' h => by obtain ⟨a2, c2, rfl, h1, h2, h3⟩ := h; exact ⟨_, rfl, a2, c2, rfl, h1, h2, h3⟩)) ?_
  rintro v w5 ⟨a2, c2, rfl, hy5, hc5, hb5⟩
  have h65 := (hb5.block g6 (Array.getElem?_eq_some_iff.1 hS).1).trans hS
  refine ⟨h65, ?_⟩
  simp only [List.setIfInBounds_toArray, List.set_cons_zero, List.set_cons_succ]
  refine nany_take 5 4 (.int .i64 st) rfl rfl (by kernel_rfl) (by kernel_rfl) (by kernel_rfl) (fun _ _ _ h => h) (Or.inl ⟨by rfl, ?_⟩) h65 ?_
  · rintro w' hS'
    go_simp
  simp only [List.setIfInBounds_toArray, List.set_cons_zero, List.set_cons_succ]
  refine nany_take 6 5 (.slice a2 rn c2) rfl rfl (by kernel_rfl) (by kernel_rfl) (by kernel_rfl) (fun _ _ _ h => h) (Or.inl ⟨by rfl, ?_⟩) h65 ?_
  · rintro w' hS'
    go_simp
  simp only [List.setIfInBounds_toArray, List.set_cons_zero, List.set_cons_succ]
  refine wpAnyH_done (by kernel_rfl) ?_ _
  clear hS
  have hB5 := HB4.out.trans (hb5.mono HB4.out.size)
  have HB5 := hid hB5
  have HY5 := hid hy5
  have HRW5 := hid hc5.2
  clear hy5 hc5 hb5 h65 hB5
  go_wp2
  go_ret2
  refine ⟨a2, c2, S, by rw [eC, eR, hrn]; rfl, ?_, by rw [eR, hrn]; exact ⟨HRW5.out.1, fun b hb => ⟨Nat.le_trans HB4.out.size (HRW5.out.2 b hb), fun hs => by have e1 := HH.out.slt b hs; have e2 := HB4.out.size; have e3 := HRW5.out.2 b hb; omega⟩⟩, ⟨gm, vo, ?_⟩, Kp.below HB5.out⟩
  · rw [eR]; exact HY5.out.weak (fun b hb _ => ⟨Nat.le_trans HB4.out.size hb, fun hs => by have e1 := HH.out.slt b hs; have e2 := HB4.out.size; unfold New at hb; omega⟩)
  · rw [eL]; exact (HH.out.later HB5.out).mono (Nat.le_succ _)
end Go.Proofs.Ythgmghfegaemkaa
