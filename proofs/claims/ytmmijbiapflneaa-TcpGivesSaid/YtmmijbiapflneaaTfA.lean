/- A segment of a connection. -/
import Derived.Test.YtmmijbiapflneaaTeB
import Derived.Test.YtmmijbiapflneaaTcA
namespace Go.Proofs.Ytmmijbiapflneaa
open Go.RowKit Go.Maps
set_option linter.unusedVariables false
/-- What a connection's segments have in common. -/
def segOf (c : Cn) (fl q : Int) (l : List Int) : Sg := ⟨c.fr, c.to_, q, c.R, fl, ownW c, 0, l⟩
set_option maxRecDepth 100000 in
set_option maxHeartbeats 8000000 in
theorem segment_any {w : World} {p : Nat} {S : Nat → Prop} {c : Cn} {vc vm vw : Value} (h : CnX w p S c vc vm vw) (ho : c.came.length ≤ 16384) (fl q : Int) (a : Option Addr) (n cp : Nat) (l : List Int) (hn : l.length = n) (hl : n ≤ 900000) (hb : Bytes w a l) :
    Calls Try.prog 27 #[.pointer (some ⟨p, 0, none⟩), .int .i64 fl, .int .u32 q, .slice a n cp] w fun e w' => ∃ a2 c2, e = .returned (.agg (sgC c.fr c.to_ q c.R fl (ownW c) 0 (.slice a2 n c2))) ∧ By w' (New w) a2 l ∧ n ≤ c2 ∧ Below w.heap.size w w' := by
  obtain ⟨W1, hW1, h1, b1⟩ := boxS w (sgC 0 0 0 0 0 0 0 (.slice none 0 0)) 30
  obtain ⟨g, hg⟩ : ∃ g, w.heap.size = g := ⟨_, rfl⟩
  have hpl := h.slt p h.sp
  have HNE : Hid (p ≠ g) := hid (by omega)
  rw [hg] at h1
  have hX := h.later b1
  have p14 := cell_of hX.box (i := 14) (v := .int .i64 c.fr) rfl
  have p15 := cell_of hX.box (i := 15) (v := .int .i64 c.to_) rfl
  have p0 := cell_of hX.box (i := 0) (v := .int .u32 c.R) rfl
  obtain ⟨fr, hfr⟩ : ∃ x, c.fr = x := ⟨_, rfl⟩
  obtain ⟨to_, hto⟩ : ∃ x, c.to_ = x := ⟨_, rfl⟩
  obtain ⟨R, hR⟩ : ∃ x, c.R = x := ⟨_, rfl⟩
  obtain ⟨wn, hwn⟩ : ∃ x, ownW c = x := ⟨_, rfl⟩
  have HOW : Hid (∀ W, Below w.heap.size w W → Calls Try.prog 33 #[.pointer (some ⟨p, 0, none⟩)] W fun e w' => e = .returned (.int .i64 wn) ∧ w' = W) := hid (fun W hW => by have := ownWindow_any (h.later hW) ho; rwa [hwn] at this)
  have HCL : Hid (∀ W, Below w.heap.size w W → Calls Try.prog 44 #[.slice a n cp] W fun e w' => ∃ a2 c2, e = .returned (.slice a2 n c2) ∧ By w' (New W) a2 l ∧ n ≤ c2 ∧ Below W.heap.size W w') := hid (fun W hW => Clone_all W a n cp l hn hl (hb.later hW))
  rw [hfr] at p14
  rw [hto] at p15
  rw [hR] at p0
  rw [hfr, hto, hR, hwn]
  have H1 := hid h1
  have HB1 := hid b1
  have HG := hid hg
  have HW := hW1.symm
  clear h1 b1 hW1 hX h ho hb hn hfr hto hR hwn hpl
  go_enter Try.func27, Try.ntmps27
  go_upto_region 1 with fail
  try simp only [Act.put]
  refine wp_region_held_drew (S := fun w' => w'.cell? ⟨p, 14, none⟩ = some (.int .i64 fr) ∧ w'.cell? ⟨p, 15, none⟩ = some (.int .i64 to_) ∧ w'.cell? ⟨p, 0, none⟩ = some (.int .u32 R)) (by kernel_rfl) ⟨p14, p15, p0⟩ (fun hS => ?_)
  obtain ⟨v0, hv0⟩ : ∃ W, W = W1.drew := ⟨_, rfl⟩
  rw [← hv0] at hS ⊢
  have HB0 := hid (show Below w.heap.size w v0 by rw [hv0]; exact HB1.out.drew)
  have H0 := hid (show v0.heap[g]? = some (.cells (sgC 0 0 0 0 0 0 0 (.slice none 0 0)) 30 (0, 0)) by rw [hv0]; exact H1.out)
  clear hv0
  refine nany_take 0 9 (.pointer (some ⟨p, 0, none⟩)) rfl rfl (by kernel_rfl) (by kernel_rfl) (by kernel_rfl) (fun _ _ _ h => h) (Or.inl ⟨by rfl, ?_⟩) hS ?_
  · rintro w' hS'
    first | go_simp | (go_simp; exact hS'.1) | (go_simp; exact hS'.2.1) | (go_simp; exact hS'.2.2)
  simp only [List.setIfInBounds_toArray, List.set_cons_zero, List.set_cons_succ]
  refine nany_take 1 10 (.pointer (some ⟨p, 0, none⟩)) rfl rfl (by kernel_rfl) (by kernel_rfl) (by kernel_rfl) (fun _ _ _ h => h) (Or.inl ⟨by rfl, ?_⟩) hS ?_
  · rintro w' hS'
    first | go_simp | (go_simp; exact hS'.1) | (go_simp; exact hS'.2.1) | (go_simp; exact hS'.2.2)
  simp only [List.setIfInBounds_toArray, List.set_cons_zero, List.set_cons_succ]
  refine nany_take 2 11 (.pointer (some ⟨p, 14, none⟩)) rfl rfl (by kernel_rfl) (by kernel_rfl) (by kernel_rfl) (fun _ _ _ h => h) (Or.inl ⟨by rfl, ?_⟩) hS ?_
  · rintro w' hS'
    first | go_simp | (go_simp; exact hS'.1) | (go_simp; exact hS'.2.1) | (go_simp; exact hS'.2.2)
  simp only [List.setIfInBounds_toArray, List.set_cons_zero, List.set_cons_succ]
  refine nany_take 3 12 (.int .i64 fr) rfl rfl (by kernel_rfl) (by kernel_rfl) (by kernel_rfl) (fun _ _ _ h => h) (Or.inl ⟨by rfl, ?_⟩) hS ?_
  · rintro w' hS'
    first | go_simp | (go_simp; exact hS'.1) | (go_simp; exact hS'.2.1) | (go_simp; exact hS'.2.2)
  simp only [List.setIfInBounds_toArray, List.set_cons_zero, List.set_cons_succ]
  refine nany_take 4 13 (.pointer (some ⟨p, 0, none⟩)) rfl rfl (by kernel_rfl) (by kernel_rfl) (by kernel_rfl) (fun _ _ _ h => h) (Or.inl ⟨by rfl, ?_⟩) hS ?_
  · rintro w' hS'
    first | go_simp | (go_simp; exact hS'.1) | (go_simp; exact hS'.2.1) | (go_simp; exact hS'.2.2)
  simp only [List.setIfInBounds_toArray, List.set_cons_zero, List.set_cons_succ]
  refine nany_take 5 14 (.pointer (some ⟨p, 0, none⟩)) rfl rfl (by kernel_rfl) (by kernel_rfl) (by kernel_rfl) (fun _ _ _ h => h) (Or.inl ⟨by rfl, ?_⟩) hS ?_
  · rintro w' hS'
    first | go_simp | (go_simp; exact hS'.1) | (go_simp; exact hS'.2.1) | (go_simp; exact hS'.2.2)
  simp only [List.setIfInBounds_toArray, List.set_cons_zero, List.set_cons_succ]
  refine nany_take 6 15 (.pointer (some ⟨p, 15, none⟩)) rfl rfl (by kernel_rfl) (by kernel_rfl) (by kernel_rfl) (fun _ _ _ h => h) (Or.inl ⟨by rfl, ?_⟩) hS ?_
  · rintro w' hS'
    first | go_simp | (go_simp; exact hS'.1) | (go_simp; exact hS'.2.1) | (go_simp; exact hS'.2.2)
  simp only [List.setIfInBounds_toArray, List.set_cons_zero, List.set_cons_succ]
  refine nany_take 7 16 (.int .i64 to_) rfl rfl (by kernel_rfl) (by kernel_rfl) (by kernel_rfl) (fun _ _ _ h => h) (Or.inl ⟨by rfl, ?_⟩) hS ?_
  · rintro w' hS'
    first | go_simp | (go_simp; exact hS'.1) | (go_simp; exact hS'.2.1) | (go_simp; exact hS'.2.2)
  simp only [List.setIfInBounds_toArray, List.set_cons_zero, List.set_cons_succ]
  refine nany_take 8 17 (.int .u32 q) rfl rfl (by kernel_rfl) (by kernel_rfl) (by kernel_rfl) (fun _ _ _ h => h) (Or.inl ⟨by rfl, ?_⟩) hS ?_
  · rintro w' hS'
    first | go_simp | (go_simp; exact hS'.1) | (go_simp; exact hS'.2.1) | (go_simp; exact hS'.2.2)
  simp only [List.setIfInBounds_toArray, List.set_cons_zero, List.set_cons_succ]
  refine nany_take 9 18 (.pointer (some ⟨p, 0, none⟩)) rfl rfl (by kernel_rfl) (by kernel_rfl) (by kernel_rfl) (fun _ _ _ h => h) (Or.inl ⟨by rfl, ?_⟩) hS ?_
  · rintro w' hS'
    first | go_simp | (go_simp; exact hS'.1) | (go_simp; exact hS'.2.1) | (go_simp; exact hS'.2.2)
  simp only [List.setIfInBounds_toArray, List.set_cons_zero, List.set_cons_succ]
  refine nany_take 10 19 (.pointer (some ⟨p, 0, none⟩)) rfl rfl (by kernel_rfl) (by kernel_rfl) (by kernel_rfl) (fun _ _ _ h => h) (Or.inl ⟨by rfl, ?_⟩) hS ?_
  · rintro w' hS'
    first | go_simp | (go_simp; exact hS'.1) | (go_simp; exact hS'.2.1) | (go_simp; exact hS'.2.2)
  simp only [List.setIfInBounds_toArray, List.set_cons_zero, List.set_cons_succ]
  refine nany_take 11 20 (.pointer (some ⟨p, 0, none⟩)) rfl rfl (by kernel_rfl) (by kernel_rfl) (by kernel_rfl) (fun _ _ _ h => h) (Or.inl ⟨by rfl, ?_⟩) hS ?_
  · rintro w' hS'
    first | go_simp | (go_simp; exact hS'.1) | (go_simp; exact hS'.2.1) | (go_simp; exact hS'.2.2)
  simp only [List.setIfInBounds_toArray, List.set_cons_zero, List.set_cons_succ]
  refine nany_take 12 21 (.pointer (some ⟨p, 0, none⟩)) rfl rfl (by kernel_rfl) (by kernel_rfl) (by kernel_rfl) (fun _ _ _ h => h) (Or.inl ⟨by rfl, ?_⟩) hS ?_
  · rintro w' hS'
    first | go_simp | (go_simp; exact hS'.1) | (go_simp; exact hS'.2.1) | (go_simp; exact hS'.2.2)
  simp only [List.setIfInBounds_toArray, List.set_cons_zero, List.set_cons_succ]
  refine nany_take 13 22 (.int .u32 R) rfl rfl (by kernel_rfl) (by kernel_rfl) (by kernel_rfl) (fun _ _ _ h => h) (Or.inl ⟨by rfl, ?_⟩) hS ?_
  · rintro w' hS'
    first | go_simp | (go_simp; exact hS'.1) | (go_simp; exact hS'.2.1) | (go_simp; exact hS'.2.2)
  simp only [List.setIfInBounds_toArray, List.set_cons_zero, List.set_cons_succ]
  refine nany_take 14 23 (.int .i64 fl) rfl rfl (by kernel_rfl) (by kernel_rfl) (by kernel_rfl) (fun _ _ _ h => h) (Or.inl ⟨by rfl, ?_⟩) hS ?_
  · rintro w' hS'
    first | go_simp | (go_simp; exact hS'.1) | (go_simp; exact hS'.2.1) | (go_simp; exact hS'.2.2)
  simp only [List.setIfInBounds_toArray, List.set_cons_zero, List.set_cons_succ]
  refine nany_take 15 24 (.pointer (some ⟨p, 0, none⟩)) rfl rfl (by kernel_rfl) (by kernel_rfl) (by kernel_rfl) (fun _ _ _ h => h) (Or.inl ⟨by rfl, ?_⟩) hS ?_
  · rintro w' hS'
    first | go_simp | (go_simp; exact hS'.1) | (go_simp; exact hS'.2.1) | (go_simp; exact hS'.2.2)
  simp only [List.setIfInBounds_toArray, List.set_cons_zero, List.set_cons_succ]
  refine nany_take 16 25 (.pointer (some ⟨p, 0, none⟩)) rfl rfl (by kernel_rfl) (by kernel_rfl) (by kernel_rfl) (fun _ _ _ h => h) (Or.inl ⟨by rfl, ?_⟩) hS ?_
  · rintro w' hS'
    first | go_simp | (go_simp; exact hS'.1) | (go_simp; exact hS'.2.1) | (go_simp; exact hS'.2.2)
  simp only [List.setIfInBounds_toArray, List.set_cons_zero, List.set_cons_succ]
  refine nany_take 17 26 (.pointer (some ⟨p, 0, none⟩)) rfl rfl (by kernel_rfl) (by kernel_rfl) (by kernel_rfl) (fun _ _ _ h => h) (Or.inl ⟨by rfl, ?_⟩) hS ?_
  · rintro w' hS'
    first | go_simp | (go_simp; exact hS'.1) | (go_simp; exact hS'.2.1) | (go_simp; exact hS'.2.2)
  simp only [List.setIfInBounds_toArray, List.set_cons_zero, List.set_cons_succ]
  refine nany_take 19 28 (.slice a n cp) rfl rfl (by kernel_rfl) (by kernel_rfl) (by kernel_rfl) (fun _ _ _ h => h) (Or.inl ⟨by rfl, ?_⟩) hS ?_
  · rintro w' hS'
    first | go_simp | (go_simp; exact hS'.1) | (go_simp; exact hS'.2.1) | (go_simp; exact hS'.2.2)
  simp only [List.setIfInBounds_toArray, List.set_cons_zero, List.set_cons_succ]
  refine nany_one 18 (by kernel_rfl) ?_
  refine nop_callE 27 (f := 33) (args := #[.pointer (some ⟨p, 0, none⟩)]) (R := fun v w' => v = .int .i64 wn ∧ w' = v0) rfl (by rfl) rfl (by go_simp) ((HOW.out v0 HB0.out).mono (fun e w' h => ⟨_, h.1, rfl, h.2⟩)) ?_
  rintro v v5 ⟨rfl, rfl⟩
  refine ⟨hS, ?_⟩
  simp only [List.setIfInBounds_toArray, List.set_cons_zero, List.set_cons_succ]
  refine nany_one 20 (by kernel_rfl) ?_
  refine nop_callE 29 (f := 44) (args := #[.slice a n cp]) (R := fun v w' => ∃ a2 c2, v = .slice a2 n c2 ∧ By w' (New v5) a2 l ∧ n ≤ c2 ∧ Below v5.heap.size v5 w') rfl (by rfl) rfl (by go_simp) ((HCL.out v5 HB0.out).mono (fun e w' h => by obtain ⟨a2, c2, h1, h2⟩ := h; exact ⟨_, h1, a2, c2, rfl, h2⟩)) ?_
  rintro v v6 ⟨a2, c2, rfl, hy6, hc6, hb6⟩
  have HS6 := hid (And.intro (cell_later hb6 hS.1) (And.intro (cell_later hb6 hS.2.1) (cell_later hb6 hS.2.2)))
  have HB6 := hid (HB0.out.trans (hb6.mono HB0.out.size))
  have H6 := hid ((hb6.block g (Array.getElem?_eq_some_iff.1 H0.out).1).trans H0.out)
  have HY := hid hy6
  have HC := hid hc6
  have HLX := hid (Array.getElem?_eq_some_iff.1 H0.out).1
  have HSZ := hid HB0.out.size
  clear hb6 hy6 hc6
  refine ⟨HS6.out, ?_⟩
  simp only [List.setIfInBounds_toArray, List.set_cons_zero, List.set_cons_succ]
  clear hS
  have hS := HS6.out
  refine nany_take 21 30 (.agg (sgC fr to_ q R fl wn 0 (.slice a2 n c2))) rfl rfl (by kernel_rfl) (by kernel_rfl) (by kernel_rfl) (fun _ _ _ h => h) (Or.inl ⟨by rfl, ?_⟩) hS ?_
  · rintro w' -
    go_simp
  simp only [List.setIfInBounds_toArray, List.set_cons_zero, List.set_cons_succ]
  obtain ⟨W9, hW9⟩ : ∃ W, W = v6.setRow g (sgC fr to_ q R fl wn 0 (.slice a2 n c2)) := ⟨_, rfl⟩
  refine nany_one 22 (by kernel_rfl) ?_
  refine nop_skip (w' := W9) rfl (by rfl) rfl (by rw [hW9]; exact ex_store 30 _ _ rfl g (sgC fr to_ q R fl wn 0 (.slice a2 n c2)) rfl rfl 30 _ H6.out sizeSg rfl (sgC_one _ _ _ _ _ _ _ _ _ _)) ?_
  have hS9 : W9.cell? ⟨p, 14, none⟩ = some (.int .i64 fr) ∧ W9.cell? ⟨p, 15, none⟩ = some (.int .i64 to_) ∧ W9.cell? ⟨p, 0, none⟩ = some (.int .u32 R) := by
      have hk : W9.heap[p]? = v6.heap[p]? := by rw [hW9]; exact setRow_other _ _ _ _ HNE.out
      exact ⟨(World.cell?_of_block hk).trans hS.1, (World.cell?_of_block hk).trans hS.2.1, (World.cell?_of_block hk).trans hS.2.2⟩
  refine ⟨hS9, ?_⟩
  refine wpAnyH_done (by kernel_rfl) ?_ _
  have H9 := hid (show W9.heap[g]? = some (.cells (sgC fr to_ q R fl wn 0 (.slice a2 n c2)) 30 (0, 0)) by rw [hW9]; exact setRow_heap _ _ _ _ _ _ H6.out)
  have HB9 := hid (show Below w.heap.size w W9 by rw [hW9]; exact (setRow_mods _ _ _).to_below HB6.out HB6.out.size (fun x hx => by rw [hx, HG.out]; exact Nat.le_refl _))
  have HY9 := hid (show By W9 (fun b => w.heap.size ≤ b) a2 l by rw [hW9]; exact (HY.out.keep (fun x hx hl => setRow_other _ _ _ _ (fun e => by have := HLX.out; rw [e] at hx; exact absurd this (Nat.not_lt.2 hx)))).weak (fun x hx _ => Nat.le_trans HSZ.out hx))
  clear hW9 hS hS9
  go_wp2
  refine bodyPost_ret (results_c rfl _ _ g (sgC fr to_ q R fl wn 0 (.slice a2 n c2)) _ _ rfl H9.out Try.underlying30 sizeSg) rfl ⟨a2, c2, rfl, HY9.out, HC.out, ?_⟩
  have h2 := HB9.out
  first | exact h2 | (rw [HG.out] at h2; exact h2)
end Go.Proofs.Ytmmijbiapflneaa
