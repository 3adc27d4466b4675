/- Tables of calls: Begin, of one that is not known. -/
import Derived.Test.YthgmghfegaemkaaQbD
import Derived.Test.YthgmghfegaemkaaQbE
namespace Go.Proofs.Ythgmghfegaemkaa
open Go.RowKit Go.Maps
set_option linter.unusedVariables false
theorem step_append_runQ {P : Program} {ops : Array Oper} {o : Oper} {a : Act} {w : World} {K : Act → World → Prop} {Q : Exit → Act → World → Prop} {E : Prop} (hgd : o.guard = none) (s x : Operand) (t : TypeId)
    (ho : o.op = .call { callee := .builtin .append, args := #[s, x], argTypes := #[t, t] }) {v y v' : Value} {w' : World} (hs : a.eval s = v) (hx : a.eval x = y)
    (hrun : (Builtin.append_ #[t, t] o.type #[v, y]).run P w = .ok v' w') (h : K (a.put o.dst v') w') :
    if Region.wanted o (yielded ops a.tmps) = true then Oper.wp P o a w K Q else E := by
  have hw : Region.wanted o (yielded ops a.tmps) = true := by simp [Region.wanted, hgd]
  rw [if_pos hw]
  unfold Oper.wp execOp
  simp only [ho, resolve, invoke, builtin, Sem.run_bind, Sem.run_pure, Result.andThen_ok, List.map_toArray, List.map_cons, List.map_nil, hs, hx, hrun]
  exact h
theorem beC_new {n : Nat} {L : Tl} {k : Ky} (h : fndT L k = none) : beC n L k = (if (rmT n L).isSome then 1 else 2) ∧ beR L k = [] ∧ beL n L k = ((rmT n L).map (fun M => runT M k)).getD L := by
  unfold beC beR beL
  rw [h]
  exact ⟨rfl, rfl, rfl⟩
theorem fndT_rm {n : Nat} {L M : Tl} {k : Ky} (hn : (L.map (·.1)).Nodup) (h : fndT L k = none) (hr : rmT n L = some M) : fndT M k = none := by
  unfold rmT at hr
  split at hr
  · simp at hr; rw [← hr]; exact h
  · cases hd : dIx L with
    | none => rw [hd] at hr; simp at hr
    | some i =>
      rw [hd] at hr
      simp at hr
      subst hr
      obtain ⟨hi, _⟩ := dIx_some hd
      rw [fndT_erase hn hi, h]
      split <;> rfl

set_option maxRecDepth 100000 in
set_option maxHeartbeats 2000000 in
theorem Begin_full (w : World) (p : Nat) (S : Nat → Prop) (n : Nat) (L : Tl) (c gm : Nat) (vo : Value) (h : TbX w p S n L c gm vo) (k : Ky) (hk : k.Ok) (hf : fndT L k = none) (hn : 0 < n) (hn2 : n ≤ 1000) (hl : L.length ≤ n) (hcc : c < 1000000) (hr : rmT n L = none) :
    Calls Try.prog 8 #[.pointer (some ⟨p, 0, none⟩), kV k] w (BeginPost w p S n L c k) := by
  obtain ⟨g3, hg3⟩ : ∃ g, w.heap.size = g := ⟨_, rfl⟩
  obtain ⟨W1, hW1⟩ : ∃ W, W = w.alloc (.cells (kL k).toArray 33) := ⟨_, rfl⟩
  have b1 : Below w.heap.size w W1 := by rw [hW1]; exact below_alloc (Below.refl _ _) (Nat.le_refl _) _
  have h1 := h.later b1
  have hg1 : W1.heap[g3]? = some (.cells (kL k).toArray 33 (0, 0)) := by rw [hW1, ← hg3]; exact alloc_new w _
  obtain ⟨M0, hM, hT⟩ := h1.mp
  obtain ⟨es, cl, hmk⟩ := hM.kind
  have hMk := (hT k hk).2 hf
  obtain ⟨eC, eR, eL⟩ := beC_new (n := n) hf
  obtain ⟨st, hst⟩ : ∃ st : Int, st = 0 := ⟨_, rfl⟩
  obtain ⟨ra, hra⟩ : ∃ ra : Option Addr, ra = none := ⟨_, rfl⟩
  obtain ⟨rn, hrn⟩ : ∃ rn : Nat, rn = 0 := ⟨_, rfl⟩
  obtain ⟨rc, hrc⟩ : ∃ rc : Nat, rc = 0 := ⟨_, rfl⟩
  have HM1 := hid hmk
  have HLK : Hid (∀ W : World, W.heap[gm]? = W1.heap[gm]? → (Instr.lookup 54 (.map (some gm)) (kV k) true).run Try.prog W = .ok (.tuple #[.agg #[.int .i64 st, .slice ra rn rc], .bool false]) W) := hid (fun W hW => by
    have := (hM.keep hW).look_ok Try.underlying54 (zeroPr W) hk
    rw [hMk] at this
    rw [hst, hra, hrn, hrc]
    exact this)
  have HP1 := hid h1.box
  have HG1 := hid hg1
  have HB1 := hid b1
  have HH := hid h
  have HKO := hid hk
  have HF := hid hf
  have HN1 := hid hn
  have HN2 := hid hn2
  have HL := hid hl
  have HCC := hid hcc
  have HW := hW1.symm
  have hgml : gm < W1.heap.size := (Array.getElem?_eq_some_iff.1 hmk).1
  have hg3l : g3 < W1.heap.size := (Array.getElem?_eq_some_iff.1 hg1).1
  have hpl : p < W1.heap.size := (Array.getElem?_eq_some_iff.1 h1.box).1
  obtain ⟨g6, hg6⟩ : ∃ g, W1.heap.size = g := ⟨_, rfl⟩
  have HAL : Hid (∀ W0 : World, W0.heap = W1.heap → ∃ W2 W3, W2 = W0.alloc (.cells #[.int .i64 0, .slice none 0 0] 58) ∧ W0.heap.size = g6 ∧ W2.heap[g6]? = some (.cells #[.int .i64 0, .slice none 0 0] 58 (0, 0)) ∧ W3 = W2.setRow g6 #[.int .i64 st, .slice ra rn rc] ∧ W3.heap[g6]? = some (.cells #[.int .i64 st, .slice ra rn rc] 58 (0, 0)) ∧ ∀ b, b < g6 → W2.heap[b]? = W1.heap[b]? ∧ W3.heap[b]? = W1.heap[b]?) := hid (fun W0 h0 => by
    have hsz : W0.heap.size = g6 := by rw [h0, hg6]
    have h26 : (W0.alloc (.cells #[.int .i64 0, .slice none 0 0] 58)).heap[g6]? = some (.cells #[.int .i64 0, .slice none 0 0] 58 (0, 0)) := by rw [← hsz]; exact alloc_new W0 _
    have b12 : Below W0.heap.size W0 (W0.alloc (.cells #[.int .i64 0, .slice none 0 0] 58)) := below_alloc (Below.refl _ _) (Nat.le_refl _) _
    refine ⟨_, _, rfl, hsz, h26, rfl, setRow_heap _ _ _ _ _ _ h26, fun b hb => ?_⟩
    have e1 := b12.block b (by omega)
    rw [h0] at e1
    exact ⟨e1, by rw [setRow_other _ _ _ _ (by omega)]; exact e1⟩)
  have HR := hid hr
  rw [hr] at eC eL
  have HEC := hid eC
  have HER := hid eR
  have HEL := hid eL
  clear eC eR eL hr
  clear hW1 b1 h1 hg1 h hk hf hM hT hMk hmk hst hra hrn hrc hn hn2 hl hcc
  go_enter Try.func8, Try.ntmps8
  go_upto_region 1 with fail
  refine wp_region_held_drew (S := fun W => W.heap[p]? = some (.cells #[.int .i64 n, .map (some gm), vo] 56 (0, 0)) ∧ W.heap[g3]? = some (.cells (kL k).toArray 33 (0, 0)) ∧ W.heap[gm]? = some (.map es cl)) (by kernel_rfl) ⟨HP1.out, HG1.out, HM1.out⟩ (fun hS => ?_)
  refine nany_take 0 9 (.pointer (some ⟨p, 0, none⟩)) rfl rfl (by kernel_rfl) (by kernel_rfl) (by kernel_rfl) (fun _ _ _ h => h) (Or.inl ⟨by rfl, ?_⟩) hS ?_
  · rintro w' hS'
    go_simp
  simp only [List.setIfInBounds_toArray, List.set_cons_zero, List.set_cons_succ]
  refine nany_take 1 10 (.pointer (some ⟨p, 0, none⟩)) rfl rfl (by kernel_rfl) (by kernel_rfl) (by kernel_rfl) (fun _ _ _ h => h) (Or.inl ⟨by rfl, ?_⟩) hS ?_
  · rintro w' hS'
    go_simp
  simp only [List.setIfInBounds_toArray, List.set_cons_zero, List.set_cons_succ]
  refine nany_take 2 11 (.pointer (some ⟨p, 1, none⟩)) rfl rfl (by kernel_rfl) (by kernel_rfl) (by kernel_rfl) (fun _ _ _ h => h) (Or.inl ⟨by rfl, ?_⟩) hS ?_
  · rintro w' hS'
    go_simp
  simp only [List.setIfInBounds_toArray, List.set_cons_zero, List.set_cons_succ]
  refine nany_take 3 12 (.map (some gm)) rfl rfl (by kernel_rfl) (by kernel_rfl) (by kernel_rfl) (fun _ _ _ h => h) (Or.inl ⟨by rfl, ?_⟩) hS ?_
  · rintro w' hS'
    have hc := cell_of hS'.1 (i := 1) (v := .map (some gm)) rfl; go_simp
  simp only [List.setIfInBounds_toArray, List.set_cons_zero, List.set_cons_succ]
  refine nany_take 4 13 (kV k) rfl rfl (by kernel_rfl) (by kernel_rfl) (by kernel_rfl) (fun _ _ _ h => h) (Or.inl ⟨by rfl, ?_⟩) hS ?_
  · rintro w' hS'
    have k0 := cell_of hS'.2.1 (i := 0) (v := .int .u32 k.ip) rfl; have k1 := cell_of hS'.2.1 (i := 1) (v := .int .i64 k.port) rfl; have k2 := cell_of hS'.2.1 (i := 2) (v := .int .u32 k.xid) rfl; have k3 := cell_of hS'.2.1 (i := 3) (v := .int .u32 k.proc) rfl; have k4 := cell_of hS'.2.1 (i := 4) (v := .int .u32 k.sum) rfl; go_simp
  simp only [List.setIfInBounds_toArray, List.set_cons_zero, List.set_cons_succ]
  refine nany_take 5 14 (.tuple #[.agg #[.int .i64 st, .slice ra rn rc], .bool false]) rfl rfl (by kernel_rfl) (by kernel_rfl) (by kernel_rfl) (fun _ _ _ h => h) (Or.inl ⟨by rfl, ?_⟩) hS ?_
  · rintro w' hS'
    have hlk := HLK.out w' (hS'.2.2.trans HM1.out.symm); go_simp
  simp only [List.setIfInBounds_toArray, List.set_cons_zero, List.set_cons_succ]
  refine nany_take 6 8 (.tuple #[.agg #[.int .i64 st, .slice ra rn rc], .bool false]) rfl rfl (by kernel_rfl) (by kernel_rfl) (by kernel_rfl) (fun _ _ _ h => h) (Or.inl ⟨by rfl, ?_⟩) hS ?_
  · rintro w' hS'
    go_simp
  simp only [List.setIfInBounds_toArray, List.set_cons_zero, List.set_cons_succ]
  refine nany_take 7 15 (.agg #[.int .i64 st, .slice ra rn rc]) rfl rfl (by kernel_rfl) (by kernel_rfl) (by kernel_rfl) (fun _ _ _ h => h) (Or.inl ⟨by rfl, ?_⟩) hS ?_
  · rintro w' hS'
    go_simp
  simp only [List.setIfInBounds_toArray, List.set_cons_zero, List.set_cons_succ]
  obtain ⟨W0, hW0⟩ : ∃ W, W = W1.drew := ⟨_, rfl⟩
  have HZ := hid (HAL.out W0 (by rw [hW0]; rfl))
  rw [← hW0] at hS ⊢
  obtain ⟨W2, W3, hW2, hs2, h26, hW3, h36, hoth⟩ := HZ.out
  have A2 := hid (show W2.heap[p]? = _ ∧ W2.heap[g3]? = _ ∧ W2.heap[gm]? = _ from ⟨((hoth p (by omega)).1).trans HP1.out, ((hoth g3 (by omega)).1).trans HG1.out, ((hoth gm (by omega)).1).trans HM1.out⟩)
  have A3 := hid (show W3.heap[p]? = _ ∧ W3.heap[g3]? = _ ∧ W3.heap[gm]? = _ from ⟨((hoth p (by omega)).2).trans HP1.out, ((hoth g3 (by omega)).2).trans HG1.out, ((hoth gm (by omega)).2).trans HM1.out⟩)
  have H36 := hid h36
  have H26 := hid h26
  have HOT := hid hoth
  have HW3 := hid hW3
  clear h36 h26 hoth hW3
  refine nany_take 8 16 (.bool false) rfl rfl (by kernel_rfl) (by kernel_rfl) (by kernel_rfl) (fun _ _ _ h => h) (Or.inl ⟨by rfl, ?_⟩) hS ?_
  · rintro w' hS'
    go_simp
  simp only [List.setIfInBounds_toArray, List.set_cons_zero, List.set_cons_succ]
  refine nany_one 9 (by kernel_rfl) ?_
  refine nop_value' 6 (v := .pointer (some ⟨g6, 0, none⟩)) (w' := W2) rfl (by rfl) rfl (by rw [hW2, ← hs2]; go_simp) ?_
  refine ⟨A2.out, ?_⟩
  simp only [List.setIfInBounds_toArray, List.set_cons_zero, List.set_cons_succ]
  refine nany_one 10 (by kernel_rfl) ?_
  refine nop_skip (w' := W3) rfl (by rfl) rfl (by rw [HW3.out]; exact ex_store 58 (.tmp 6) (.tmp 15) rfl g6 #[.int .i64 st, .slice ra rn rc] rfl rfl 58 _ H26.out sizePr rfl (by simp [Value.oneCell'])) ?_
  refine ⟨A3.out, ?_⟩
  refine nany_take 11 7 (.bool false) rfl rfl (by kernel_rfl) (by kernel_rfl) (by kernel_rfl) (fun _ _ _ h => h) (Or.inl ⟨by rfl, ?_⟩) A3.out ?_
  · rintro w' hS'
    go_simp
  simp only [List.setIfInBounds_toArray, List.set_cons_zero, List.set_cons_succ]
  refine wpAnyH_done (by kernel_rfl) ?_ _
  clear hS
  have hB3 : Below w.heap.size w W3 := ⟨by rw [HW3.out, hW2, hW0]; exact HB1.out.os, by rw [HW3.out, hW2, hW0]; exact HB1.out.tape, by rw [HW3.out, hW2, hW0]; exact HB1.out.output, by have e1 := HB1.out.size; have e2 := (Array.getElem?_eq_some_iff.1 H36.out).1; omega, fun b hb => ((HOT.out b (by have := HB1.out.size; omega)).2).trans (HB1.out.block b hb)⟩
  have HB3 := hid hB3
  have hrm := makeRoom_any W3 p S n L c gm vo (HH.out.later hB3) HN1.out HN2.out HL.out
  have HRM := hid hrm
  clear hB3 hrm
  go_wp2_with (go_at_call 15; refine HRM.out.mono ?_; rintro e w4 ⟨rfl, vo4, hT4, hK4⟩; rw [HR.out] at hT4 ⊢; have HT4 := hid hT4; have HK4 := hid hK4; clear hT4 hK4; simp only [Option.isSome_none])
  go_ret2
  refine ⟨none, 0, S, by rw [HEC.out, HER.out]; rfl, by rw [HER.out]; exact By.nil _ _ _, by rw [HER.out]; exact ⟨RW.nil _ _ _, fun b hb => by simp [blkV] at hb⟩, ⟨gm, vo4, ?_⟩, (Kp.below HB3.out).trans HK4.out⟩
  rw [HEL.out]
  exact HT4.out.mono (Nat.le_succ _)

set_option maxRecDepth 100000 in
set_option maxHeartbeats 2000000 in
theorem Begin_fresh (w : World) (p : Nat) (S : Nat → Prop) (n : Nat) (L : Tl) (c gm : Nat) (vo : Value) (h : TbX w p S n L c gm vo) (k : Ky) (hk : k.Ok) (hf : fndT L k = none) (hn : 0 < n) (hn2 : n ≤ 1000) (hl : L.length ≤ n) (hcc : c < 1000000) (M : Tl) (hr : rmT n L = some M) :
    Calls Try.prog 8 #[.pointer (some ⟨p, 0, none⟩), kV k] w (BeginPost w p S n L c k) := by
  obtain ⟨g3, hg3⟩ : ∃ g, w.heap.size = g := ⟨_, rfl⟩
  obtain ⟨W1, hW1⟩ : ∃ W, W = w.alloc (.cells (kL k).toArray 33) := ⟨_, rfl⟩
  have b1 : Below w.heap.size w W1 := by rw [hW1]; exact below_alloc (Below.refl _ _) (Nat.le_refl _) _
  have h1 := h.later b1
  have hg1 : W1.heap[g3]? = some (.cells (kL k).toArray 33 (0, 0)) := by rw [hW1, ← hg3]; exact alloc_new w _
  obtain ⟨M0, hM, hT⟩ := h1.mp
  obtain ⟨es, cl, hmk⟩ := hM.kind
  have hMk := (hT k hk).2 hf
  obtain ⟨eC, eR, eL⟩ := beC_new (n := n) hf
  obtain ⟨st, hst⟩ : ∃ st : Int, st = 0 := ⟨_, rfl⟩
  obtain ⟨ra, hra⟩ : ∃ ra : Option Addr, ra = none := ⟨_, rfl⟩
  obtain ⟨rn, hrn⟩ : ∃ rn : Nat, rn = 0 := ⟨_, rfl⟩
  obtain ⟨rc, hrc⟩ : ∃ rc : Nat, rc = 0 := ⟨_, rfl⟩
  have HM1 := hid hmk
  have HLK : Hid (∀ W : World, W.heap[gm]? = W1.heap[gm]? → (Instr.lookup 54 (.map (some gm)) (kV k) true).run Try.prog W = .ok (.tuple #[.agg #[.int .i64 st, .slice ra rn rc], .bool false]) W) := hid (fun W hW => by
    have := (hM.keep hW).look_ok Try.underlying54 (zeroPr W) hk
    rw [hMk] at this
    rw [hst, hra, hrn, hrc]
    exact this)
  have HP1 := hid h1.box
  have HG1 := hid hg1
  have HB1 := hid b1
  have HH := hid h
  have HKO := hid hk
  have HF := hid hf
  have HN1 := hid hn
  have HN2 := hid hn2
  have HL := hid hl
  have HCC := hid hcc
  have HW := hW1.symm
  have hgml : gm < W1.heap.size := (Array.getElem?_eq_some_iff.1 hmk).1
  have hg3l : g3 < W1.heap.size := (Array.getElem?_eq_some_iff.1 hg1).1
  have hpl : p < W1.heap.size := (Array.getElem?_eq_some_iff.1 h1.box).1
  obtain ⟨g6, hg6⟩ : ∃ g, W1.heap.size = g := ⟨_, rfl⟩
  have HAL : Hid (∀ W0 : World, W0.heap = W1.heap → ∃ W2 W3, W2 = W0.alloc (.cells #[.int .i64 0, .slice none 0 0] 58) ∧ W0.heap.size = g6 ∧ W2.heap[g6]? = some (.cells #[.int .i64 0, .slice none 0 0] 58 (0, 0)) ∧ W3 = W2.setRow g6 #[.int .i64 st, .slice ra rn rc] ∧ W3.heap[g6]? = some (.cells #[.int .i64 st, .slice ra rn rc] 58 (0, 0)) ∧ ∀ b, b < g6 → W2.heap[b]? = W1.heap[b]? ∧ W3.heap[b]? = W1.heap[b]?) := hid (fun W0 h0 => by
    have hsz : W0.heap.size = g6 := by rw [h0, hg6]
    have h26 : (W0.alloc (.cells #[.int .i64 0, .slice none 0 0] 58)).heap[g6]? = some (.cells #[.int .i64 0, .slice none 0 0] 58 (0, 0)) := by rw [← hsz]; exact alloc_new W0 _
    have b12 : Below W0.heap.size W0 (W0.alloc (.cells #[.int .i64 0, .slice none 0 0] 58)) := below_alloc (Below.refl _ _) (Nat.le_refl _) _
    refine ⟨_, _, rfl, hsz, h26, rfl, setRow_heap _ _ _ _ _ _ h26, fun b hb => ?_⟩
    have e1 := b12.block b (by omega)
    rw [h0] at e1
    exact ⟨e1, by rw [setRow_other _ _ _ _ (by omega)]; exact e1⟩)
  have HFM := hid (fndT_rm h.nd hf hr)
  have HML := hid (rmT_len hr hl hn)
  have HR := hid hr
  rw [hr] at eC eL
  have HEC := hid eC
  have HER := hid eR
  have HEL := hid eL
  clear eC eR eL hr
  clear hW1 b1 h1 hg1 h hk hf hM hT hMk hmk hst hra hrn hrc hn hn2 hl hcc
  go_enter Try.func8, Try.ntmps8
  go_upto_region 1 with fail
  refine wp_region_held_drew (S := fun W => W.heap[p]? = some (.cells #[.int .i64 n, .map (some gm), vo] 56 (0, 0)) ∧ W.heap[g3]? = some (.cells (kL k).toArray 33 (0, 0)) ∧ W.heap[gm]? = some (.map es cl)) (by kernel_rfl) ⟨HP1.out, HG1.out, HM1.out⟩ (fun hS => ?_)
  refine nany_take 0 9 (.pointer (some ⟨p, 0, none⟩)) rfl rfl (by kernel_rfl) (by kernel_rfl) (by kernel_rfl) (fun _ _ _ h => h) (Or.inl ⟨by rfl, ?_⟩) hS ?_
  · rintro w' hS'
    go_simp
  simp only [List.setIfInBounds_toArray, List.set_cons_zero, List.set_cons_succ]
  refine nany_take 1 10 (.pointer (some ⟨p, 0, none⟩)) rfl rfl (by kernel_rfl) (by kernel_rfl) (by kernel_rfl) (fun _ _ _ h => h) (Or.inl ⟨by rfl, ?_⟩) hS ?_
  · rintro w' hS'
    go_simp
  simp only [List.setIfInBounds_toArray, List.set_cons_zero, List.set_cons_succ]
  refine nany_take 2 11 (.pointer (some ⟨p, 1, none⟩)) rfl rfl (by kernel_rfl) (by kernel_rfl) (by kernel_rfl) (fun _ _ _ h => h) (Or.inl ⟨by rfl, ?_⟩) hS ?_
  · rintro w' hS'
    go_simp
  simp only [List.setIfInBounds_toArray, List.set_cons_zero, List.set_cons_succ]
  refine nany_take 3 12 (.map (some gm)) rfl rfl (by kernel_rfl) (by kernel_rfl) (by kernel_rfl) (fun _ _ _ h => h) (Or.inl ⟨by rfl, ?_⟩) hS ?_
  · rintro w' hS'
    have hc := cell_of hS'.1 (i := 1) (v := .map (some gm)) rfl; go_simp
  simp only [List.setIfInBounds_toArray, List.set_cons_zero, List.set_cons_succ]
  refine nany_take 4 13 (kV k) rfl rfl (by kernel_rfl) (by kernel_rfl) (by kernel_rfl) (fun _ _ _ h => h) (Or.inl ⟨by rfl, ?_⟩) hS ?_
  · rintro w' hS'
    have k0 := cell_of hS'.2.1 (i := 0) (v := .int .u32 k.ip) rfl; have k1 := cell_of hS'.2.1 (i := 1) (v := .int .i64 k.port) rfl; have k2 := cell_of hS'.2.1 (i := 2) (v := .int .u32 k.xid) rfl; have k3 := cell_of hS'.2.1 (i := 3) (v := .int .u32 k.proc) rfl; have k4 := cell_of hS'.2.1 (i := 4) (v := .int .u32 k.sum) rfl; go_simp
  simp only [List.setIfInBounds_toArray, List.set_cons_zero, List.set_cons_succ]
  refine nany_take 5 14 (.tuple #[.agg #[.int .i64 st, .slice ra rn rc], .bool false]) rfl rfl (by kernel_rfl) (by kernel_rfl) (by kernel_rfl) (fun _ _ _ h => h) (Or.inl ⟨by rfl, ?_⟩) hS ?_
  · rintro w' hS'
    have hlk := HLK.out w' (hS'.2.2.trans HM1.out.symm); go_simp
  simp only [List.setIfInBounds_toArray, List.set_cons_zero, List.set_cons_succ]
  refine nany_take 6 8 (.tuple #[.agg #[.int .i64 st, .slice ra rn rc], .bool false]) rfl rfl (by kernel_rfl) (by kernel_rfl) (by kernel_rfl) (fun _ _ _ h => h) (Or.inl ⟨by rfl, ?_⟩) hS ?_
  · rintro w' hS'
    go_simp
  simp only [List.setIfInBounds_toArray, List.set_cons_zero, List.set_cons_succ]
  refine nany_take 7 15 (.agg #[.int .i64 st, .slice ra rn rc]) rfl rfl (by kernel_rfl) (by kernel_rfl) (by kernel_rfl) (fun _ _ _ h => h) (Or.inl ⟨by rfl, ?_⟩) hS ?_
  · rintro w' hS'
    go_simp
  simp only [List.setIfInBounds_toArray, List.set_cons_zero, List.set_cons_succ]
  obtain ⟨W0, hW0⟩ : ∃ W, W = W1.drew := ⟨_, rfl⟩
  have HZ := hid (HAL.out W0 (by rw [hW0]; rfl))
  rw [← hW0] at hS ⊢
  obtain ⟨W2, W3, hW2, hs2, h26, hW3, h36, hoth⟩ := HZ.out
  have A2 := hid (show W2.heap[p]? = _ ∧ W2.heap[g3]? = _ ∧ W2.heap[gm]? = _ from ⟨((hoth p (by omega)).1).trans HP1.out, ((hoth g3 (by omega)).1).trans HG1.out, ((hoth gm (by omega)).1).trans HM1.out⟩)
  have A3 := hid (show W3.heap[p]? = _ ∧ W3.heap[g3]? = _ ∧ W3.heap[gm]? = _ from ⟨((hoth p (by omega)).2).trans HP1.out, ((hoth g3 (by omega)).2).trans HG1.out, ((hoth gm (by omega)).2).trans HM1.out⟩)
  have H36 := hid h36
  have H26 := hid h26
  have HOT := hid hoth
  have HW3 := hid hW3
  clear h36 h26 hoth hW3
  refine nany_take 8 16 (.bool false) rfl rfl (by kernel_rfl) (by kernel_rfl) (by kernel_rfl) (fun _ _ _ h => h) (Or.inl ⟨by rfl, ?_⟩) hS ?_
  · rintro w' hS'
    go_simp
  simp only [List.setIfInBounds_toArray, List.set_cons_zero, List.set_cons_succ]
  refine nany_one 9 (by kernel_rfl) ?_
  refine nop_value' 6 (v := .pointer (some ⟨g6, 0, none⟩)) (w' := W2) rfl (by rfl) rfl (by rw [hW2, ← hs2]; go_simp) ?_
  refine ⟨A2.out, ?_⟩
  simp only [List.setIfInBounds_toArray, List.set_cons_zero, List.set_cons_succ]
  refine nany_one 10 (by kernel_rfl) ?_
  refine nop_skip (w' := W3) rfl (by rfl) rfl (by rw [HW3.out]; exact ex_store 58 (.tmp 6) (.tmp 15) rfl g6 #[.int .i64 st, .slice ra rn rc] rfl rfl 58 _ H26.out sizePr rfl (by simp [Value.oneCell'])) ?_
  refine ⟨A3.out, ?_⟩
  refine nany_take 11 7 (.bool false) rfl rfl (by kernel_rfl) (by kernel_rfl) (by kernel_rfl) (fun _ _ _ h => h) (Or.inl ⟨by rfl, ?_⟩) A3.out ?_
  · rintro w' hS'
    go_simp
  simp only [List.setIfInBounds_toArray, List.set_cons_zero, List.set_cons_succ]
  refine wpAnyH_done (by kernel_rfl) ?_ _
  clear hS
  have hB3 : Below w.heap.size w W3 := ⟨by rw [HW3.out, hW2, hW0]; exact HB1.out.os, by rw [HW3.out, hW2, hW0]; exact HB1.out.tape, by rw [HW3.out, hW2, hW0]; exact HB1.out.output, by have e1 := HB1.out.size; have e2 := (Array.getElem?_eq_some_iff.1 H36.out).1; omega, fun b hb => ((HOT.out b (by have := HB1.out.size; omega)).2).trans (HB1.out.block b hb)⟩
  have HB3 := hid hB3
  have hrm := makeRoom_any W3 p S n L c gm vo (HH.out.later hB3) HN1.out HN2.out HL.out
  have HRM := hid hrm
  clear hB3 hrm
  go_upto_region 6 with (go_at_call 15; refine HRM.out.mono ?_; rintro e w4 ⟨rfl, vo4, hT4, hK4⟩; rw [HR.out] at hT4 ⊢; have HT4 := hid hT4; have HK4 := hid hK4; clear hT4 hK4; simp only [Option.isSome_some])
  obtain ⟨m, hm⟩ : ∃ m, M.length = m := ⟨_, rfl⟩
  obtain ⟨a4, c4, hv4⟩ := HT4.out.row.shape
  have hT4 := HT4.out
  rw [show (some M).getD L = M from rfl] at hT4
  rw [show (some M).getD L = M from rfl, hm] at hv4
  obtain ⟨W5, hup, hp5, n5, W6, W7, hW6, hW7, hp7, n7, a7, c7, w8, hap, hp8, n8, S', hfT, hfK⟩ := hT4.begun HKO.out HFM.out HCC.out hm (by have := HML.out; have := HN2.out; omega)
  have h3l : g3 < W3.heap.size := Nat.lt_of_lt_of_le hg3l (by have e2 := (Array.getElem?_eq_some_iff.1 H36.out).1; omega)
  have hns : ¬ S g3 := fun e => by have := HH.out.slt g3 e; omega
  have h43 : w4.heap[g3]? = some (.cells (kL k).toArray 33 (0, 0)) := (HK4.out.block h3l hns).trans A3.out.2.1
  have h4l : g3 < w4.heap.size := (Array.getElem?_eq_some_iff.1 h43).1
  have A4 := hid (show w4.heap[p]? = _ ∧ w4.heap[g3]? = _ from ⟨hT4.box, h43⟩)
  have A5 := hid (show W5.heap[p]? = _ ∧ W5.heap[g3]? = _ from ⟨hp5, (n5 g3 h4l hns).trans h43⟩)
  have A7 := hid (show W7.heap[p]? = _ ∧ W7.heap[g3]? = _ from ⟨hp7, (n7 g3 h4l hns).trans h43⟩)
  have A8 := hid (show w8.heap[p]? = _ ∧ w8.heap[g3]? = _ from ⟨hp8, (n8 g3 h4l hns).trans h43⟩)
  have HUP := hid hup
  have HW6 := hid hW6
  have HW7 := hid hW7
  have HAP := hid hap
  have HFT := hid hfT
  have HFK := hid hfK
  clear hup hp5 n5 hW6 hW7 hp7 n7 hap hp8 n8 hfT hfK hT4 hm
  refine wp_region_held_drew (S := fun W => W.heap[p]? = some (.cells #[.int .i64 n, .map (some gm), vo4] 56 (0, 0)) ∧ W.heap[g3]? = some (.cells (kL k).toArray 33 (0, 0))) (by kernel_rfl) A4.out (fun hS => ?_)
  refine nany_take 0 26 (.pointer (some ⟨p, 0, none⟩)) rfl rfl (by kernel_rfl) (by kernel_rfl) (by kernel_rfl) (fun _ _ _ h => h) (Or.inl ⟨by rfl, ?_⟩) hS ?_
  · rintro w' hS'
    go_simp
  simp only [List.setIfInBounds_toArray, List.set_cons_zero, List.set_cons_succ]
  refine nany_take 1 27 (.pointer (some ⟨p, 0, none⟩)) rfl rfl (by kernel_rfl) (by kernel_rfl) (by kernel_rfl) (fun _ _ _ h => h) (Or.inl ⟨by rfl, ?_⟩) hS ?_
  · rintro w' hS'
    go_simp
  simp only [List.setIfInBounds_toArray, List.set_cons_zero, List.set_cons_succ]
  refine nany_take 2 28 (.pointer (some ⟨p, 1, none⟩)) rfl rfl (by kernel_rfl) (by kernel_rfl) (by kernel_rfl) (fun _ _ _ h => h) (Or.inl ⟨by rfl, ?_⟩) hS ?_
  · rintro w' hS'
    go_simp
  simp only [List.setIfInBounds_toArray, List.set_cons_zero, List.set_cons_succ]
  refine nany_take 3 29 (.map (some gm)) rfl rfl (by kernel_rfl) (by kernel_rfl) (by kernel_rfl) (fun _ _ _ h => h) (Or.inl ⟨by rfl, ?_⟩) hS ?_
  · rintro w' hS'
    have hc := cell_of hS'.1 (i := 1) (v := .map (some gm)) rfl; go_simp
  simp only [List.setIfInBounds_toArray, List.set_cons_zero, List.set_cons_succ]
  refine nany_take 4 30 (kV k) rfl rfl (by kernel_rfl) (by kernel_rfl) (by kernel_rfl) (fun _ _ _ h => h) (Or.inl ⟨by rfl, ?_⟩) hS ?_
  · rintro w' hS'
    have k0 := cell_of hS'.2 (i := 0) (v := .int .u32 k.ip) rfl; have k1 := cell_of hS'.2 (i := 1) (v := .int .i64 k.port) rfl; have k2 := cell_of hS'.2 (i := 2) (v := .int .u32 k.xid) rfl; have k3 := cell_of hS'.2 (i := 3) (v := .int .u32 k.proc) rfl; have k4 := cell_of hS'.2 (i := 4) (v := .int .u32 k.sum) rfl; go_simp
  simp only [List.setIfInBounds_toArray, List.set_cons_zero, List.set_cons_succ]
  refine nany_take 5 31 (.agg #[.int .i64 2, .slice none 0 0]) rfl rfl (by kernel_rfl) (by kernel_rfl) (by kernel_rfl) (fun _ _ _ h => h) (Or.inl ⟨by rfl, ?_⟩) hS ?_
  · rintro w' hS'
    go_simp
  simp only [List.setIfInBounds_toArray, List.set_cons_zero, List.set_cons_succ]
  refine nany_one 6 (by kernel_rfl) ?_
  refine nop_skip (w' := W5) rfl (by rfl) rfl (by unfold execOp; simp [Act.eval, HUP.out, Result.andThen]) ?_
  refine ⟨A5.out, ?_⟩
  refine wpAnyH_done (by kernel_rfl) ?_ _
  clear hS
  go_upto_region 7 with fail
  have hap2 : (Builtin.append_ #[44, 44] 44 #[.slice a4 m c4, .slice (some ⟨W5.heap.size, 0, none⟩) 1 1]).run Try.prog (W5.alloc (.cells #[.int .u32 k.ip, .int .i64 k.port, .int .u32 k.xid, .int .u32 k.proc, .int .u32 k.sum] 33)).drew = .ok (.slice a7 (m + 1) c7) w8 := by have := HAP.out; rw [HW7.out, HW6.out, hv4] at this; exact this
  have k50 : W5.cell? ⟨g3, 0, none⟩ = some (.int .u32 k.ip) := cell_of A5.out.2 rfl
  have k51 : W5.cell? ⟨g3, 1, none⟩ = some (.int .i64 k.port) := cell_of A5.out.2 rfl
  have k52 : W5.cell? ⟨g3, 2, none⟩ = some (.int .u32 k.xid) := cell_of A5.out.2 rfl
  have k53 : W5.cell? ⟨g3, 3, none⟩ = some (.int .u32 k.proc) := cell_of A5.out.2 rfl
  have k54 : W5.cell? ⟨g3, 4, none⟩ = some (.int .u32 k.sum) := cell_of A5.out.2 rfl
  have c52 : W5.cell? ⟨p, 2, none⟩ = some (.slice a4 m c4) := by rw [← hv4]; exact cell_of A5.out.1 rfl
  have k70 : (W5.alloc (.cells #[.int .u32 k.ip, .int .i64 k.port, .int .u32 k.xid, .int .u32 k.proc, .int .u32 k.sum] 33)).cell? ⟨g3, 0, none⟩ = some (.int .u32 k.ip) := by have e := cell_of A7.out.2 (i := 0) (v := .int .u32 k.ip) rfl; rw [HW7.out, HW6.out] at e; exact e
  have k71 : (W5.alloc (.cells #[.int .u32 k.ip, .int .i64 k.port, .int .u32 k.xid, .int .u32 k.proc, .int .u32 k.sum] 33)).cell? ⟨g3, 1, none⟩ = some (.int .i64 k.port) := by have e := cell_of A7.out.2 (i := 1) (v := .int .i64 k.port) rfl; rw [HW7.out, HW6.out] at e; exact e
  have k72 : (W5.alloc (.cells #[.int .u32 k.ip, .int .i64 k.port, .int .u32 k.xid, .int .u32 k.proc, .int .u32 k.sum] 33)).cell? ⟨g3, 2, none⟩ = some (.int .u32 k.xid) := by have e := cell_of A7.out.2 (i := 2) (v := .int .u32 k.xid) rfl; rw [HW7.out, HW6.out] at e; exact e
  have k73 : (W5.alloc (.cells #[.int .u32 k.ip, .int .i64 k.port, .int .u32 k.xid, .int .u32 k.proc, .int .u32 k.sum] 33)).cell? ⟨g3, 3, none⟩ = some (.int .u32 k.proc) := by have e := cell_of A7.out.2 (i := 3) (v := .int .u32 k.proc) rfl; rw [HW7.out, HW6.out] at e; exact e
  have k74 : (W5.alloc (.cells #[.int .u32 k.ip, .int .i64 k.port, .int .u32 k.xid, .int .u32 k.proc, .int .u32 k.sum] 33)).cell? ⟨g3, 4, none⟩ = some (.int .u32 k.sum) := by have e := cell_of A7.out.2 (i := 4) (v := .int .u32 k.sum) rfl; rw [HW7.out, HW6.out] at e; exact e
  have c72 : (W5.alloc (.cells #[.int .u32 k.ip, .int .i64 k.port, .int .u32 k.xid, .int .u32 k.proc, .int .u32 k.sum] 33)).cell? ⟨p, 2, none⟩ = some (.slice a4 m c4) := by have e := cell_of A7.out.1 (i := 2) (v := vo4) rfl; rw [HW7.out, HW6.out, hv4] at e; exact e
  have d8 := froz_of A8.out.1 2
  have e8 : w8.cell? ⟨p, 2, none⟩ = some (.slice a4 m c4) := by rw [← hv4]; exact cell_of A8.out.1 rfl
  obtain ⟨W9, hW9⟩ : ∃ W, W = w8.setCell ⟨p, 2, none⟩ (.slice a7 (m + 1) c7) := ⟨_, rfl⟩
  rw [← hW9] at HFT HFK
  clear HAP HW6 HW7 A4 A5 A7 A8 HUP
  go_region_law (refine step_append_runQ rfl _ _ 44 rfl rfl rfl hap2 ?_)
  all_goals
    rw [← hW9]
    clear hW9
    go_wp2
    go_ret2
    refine ⟨none, 0, S', by rw [HEC.out, HER.out]; rfl, by rw [HER.out]; exact By.nil _ _ _, by rw [HER.out]; exact ⟨RW.nil _ _ _, fun b hb => by simp [blkV] at hb⟩, ⟨gm, .slice a7 (m + 1) c7, ?_⟩, ((Kp.below HB3.out).trans HK4.out).trans HFK.out⟩
    rw [HEL.out]
    exact HFT.out
end Go.Proofs.Ythgmghfegaemkaa
