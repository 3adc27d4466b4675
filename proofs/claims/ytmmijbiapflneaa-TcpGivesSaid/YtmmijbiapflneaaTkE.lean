/- What is sent again, where bytes are under way. -/
import Derived.Test.YtmmijbiapflneaaTkC
namespace Go.Proofs.Ytmmijbiapflneaa
open Go.RowKit Go.Maps
set_option linter.unusedVariables false
set_option maxRecDepth 100000 in
set_option maxHeartbeats 16000000 in
theorem repeated_some {w : World} {p : Nat} {S : Nat → Prop} {c : Cn} {vc vm vw : Value} (h : CnX w p S c vc vm vw) (hcl : c.came.length ≤ 16384) (k : Nat) (hk : sentC c = k) (hk0 : 0 < k) (hkl : k ≤ c.waits.length) (hl : c.waits.length ≤ 65536) (m : Nat) (hm : (m : Int) = min (k : Int) c.M) (hwb : ∀ x ∈ c.waits, IsB x) :
    Calls Try.prog 29 #[.pointer (some ⟨p, 0, none⟩)] w fun e w' => ∃ a2 c2, e = .returned (.agg (sgC c.fr c.to_ c.U c.R 16 (ownW c) 0 (.slice a2 m c2))) ∧ By w' (fun b => w.heap.size ≤ b) a2 (c.waits.take m) ∧ m ≤ c2 ∧ Below w.heap.size w w' := by
  obtain ⟨W1, hW1, h1, b1⟩ := boxS w zSg 30
  obtain ⟨g, hg⟩ : ∃ g, w.heap.size = g := ⟨_, rfl⟩
  have HNE : Hid (p ≠ g) := hid (by have := h.slt p h.sp; omega)
  rw [hg] at h1
  obtain ⟨aw, kw, rfl⟩ := len_waits h
  have hkw : c.waits.length ≤ kw := by
    rcases h.rw_.2 with ⟨e, h0⟩ | ⟨b, off, cap, cur, e, _, h1, _⟩
    · omega
    · simp only [Value.slice.injEq] at e
      omega
  have hX := h.later b1
  have HSN := hid (sent_any hX)
  rw [hk] at HSN
  obtain ⟨a3, hcut, hby3⟩ := cut_h aw c.waits.length kw m (by omega) hkw
  obtain ⟨DD, hDD⟩ : ∃ x, x = c.waits.take m := ⟨_, rfl⟩
  have hDl : DD.length = m := by rw [hDD, List.length_take]; omega
  have HSG : Hid (∀ W, CnX W p S c vc vm (.slice aw c.waits.length kw) → Calls Try.prog 27 #[.pointer (some ⟨p, 0, none⟩), .int .i64 16, .int .u32 c.U, .slice a3 m kw] W fun e w' => ∃ a2 c2, e = .returned (.agg (sgC c.fr c.to_ c.U c.R 16 (ownW c) 0 (.slice a2 m c2))) ∧ By w' (New W) a2 DD ∧ m ≤ c2 ∧ Below W.heap.size W w') := hid (fun W hx => segment_any hx hcl 16 c.U a3 m kw DD hDl (by omega) (by rw [hDD]; exact hby3 W c.waits rfl (RW.bytes hx.rw_ rfl hwb)))
  have hmin : ∀ ats ty W, (Builtin.min_ ats ty #[.int .i64 (k : Int), .int .i64 c.M]).run Try.prog W = .ok (.int .i64 (m : Int)) W := fun ats ty W => by rw [min_run, hm]
  rw [← hDD]
  obtain ⟨fr, hfr⟩ : ∃ x, c.fr = x := ⟨_, rfl⟩
  obtain ⟨to_, hto⟩ : ∃ x, c.to_ = x := ⟨_, rfl⟩
  obtain ⟨R, hR⟩ : ∃ x, c.R = x := ⟨_, rfl⟩
  obtain ⟨wn, hwn⟩ : ∃ x, ownW c = x := ⟨_, rfl⟩
  obtain ⟨U, hU⟩ : ∃ x, c.U = x := ⟨_, rfl⟩
  obtain ⟨wl, hwl⟩ : ∃ x, c.waits.length = x := ⟨_, rfl⟩
  rw [hfr, hto, hR, hwn, hU, hwl] at HSG
  rw [hwl] at hcut hX
  rw [hfr, hto, hR, hwn, hU]
  have HU := hid hU
  have hk1 : (0 : Int) < (k : Int) := by omega
  have HX1 := hid hX
  have H1 := hid h1
  have HB1 := hid b1
  have HG := hid hg
  have HW := hW1.symm
  clear h1 b1 hW1 hX h hcl hk hkl hl hm hwb hkw hby3 hDD hDl hfr hto hR hwn hU hwl
  go_enter Try.func29, Try.ntmps29
  go_upto_region 3 with (go_at_call 31; refine HSN.out.mono ?_; rintro e w2 ⟨rfl, hb2⟩; have HX2 := hid (HX1.out.later hb2); have HB2 := hid (HB1.out.trans (hb2.mono HB1.out.size)); have H2 := hid ((hb2.block g (Array.getElem?_eq_some_iff.1 H1.out).1).trans H1.out); clear hb2 HSN HX1 HB1 H1)
  have p5 := cell_of HX2.out.box (i := 5) (v := .int .u32 U) (by rw [← HU.out]; rfl)
  have p7 := cell_of HX2.out.box (i := 7) (v := .slice aw wl kw) rfl
  have p9 := cell_of HX2.out.box (i := 9) (v := .int .i64 c.M) rfl
  try simp only [Act.put]
  refine wp_region_held_drew (S := fun w' => w'.cell? ⟨p, 5, none⟩ = some (.int .u32 U) ∧ w'.cell? ⟨p, 7, none⟩ = some (.slice aw wl kw) ∧ w'.cell? ⟨p, 9, none⟩ = some (.int .i64 c.M)) (by kernel_rfl) ⟨p5, p7, p9⟩ (fun hS => ?_)
  obtain ⟨v0, hv0⟩ : ∃ W, W = w2.drew := ⟨_, rfl⟩
  rw [← hv0] at hS ⊢
  have HX0 := hid (show CnX v0 p S c vc vm (.slice aw wl kw) by rw [hv0]; exact HX2.out.drew)
  have HB0 := hid (show Below w.heap.size w v0 by rw [hv0]; exact HB2.out.drew)
  have H0 := hid (show v0.heap[g]? = some (.cells zSg 30 (0, 0)) by rw [hv0]; exact H2.out)
  clear hv0
  refine nany_take 0 12 (.pointer (some ⟨p, 0, none⟩)) rfl rfl (by kernel_rfl) (by kernel_rfl) (by kernel_rfl) (fun _ _ _ h => h) (Or.inl ⟨by rfl, ?_⟩) hS ?_
  · rintro w' hS'
    first | go_simp | (go_simp; exact hS'.1) | (go_simp; exact hS'.2.1) | (go_simp; exact hS'.2.2)
  simp only [List.setIfInBounds_toArray, List.set_cons_zero, List.set_cons_succ]
  refine nany_take 1 13 (.pointer (some ⟨p, 0, none⟩)) rfl rfl (by kernel_rfl) (by kernel_rfl) (by kernel_rfl) (fun _ _ _ h => h) (Or.inl ⟨by rfl, ?_⟩) hS ?_
  · rintro w' hS'
    first | go_simp | (go_simp; exact hS'.1) | (go_simp; exact hS'.2.1) | (go_simp; exact hS'.2.2)
  simp only [List.setIfInBounds_toArray, List.set_cons_zero, List.set_cons_succ]
  refine nany_take 2 14 (.pointer (some ⟨p, 0, none⟩)) rfl rfl (by kernel_rfl) (by kernel_rfl) (by kernel_rfl) (fun _ _ _ h => h) (Or.inl ⟨by rfl, ?_⟩) hS ?_
  · rintro w' hS'
    first | go_simp | (go_simp; exact hS'.1) | (go_simp; exact hS'.2.1) | (go_simp; exact hS'.2.2)
  simp only [List.setIfInBounds_toArray, List.set_cons_zero, List.set_cons_succ]
  refine nany_take 3 15 (.pointer (some ⟨p, 5, none⟩)) rfl rfl (by kernel_rfl) (by kernel_rfl) (by kernel_rfl) (fun _ _ _ h => h) (Or.inl ⟨by rfl, ?_⟩) hS ?_
  · rintro w' hS'
    first | go_simp | (go_simp; exact hS'.1) | (go_simp; exact hS'.2.1) | (go_simp; exact hS'.2.2)
  simp only [List.setIfInBounds_toArray, List.set_cons_zero, List.set_cons_succ]
  refine nany_take 4 16 (.pointer (some ⟨p, 5, none⟩)) rfl rfl (by kernel_rfl) (by kernel_rfl) (by kernel_rfl) (fun _ _ _ h => h) (Or.inl ⟨by rfl, ?_⟩) hS ?_
  · rintro w' hS'
    first | go_simp | (go_simp; exact hS'.1) | (go_simp; exact hS'.2.1) | (go_simp; exact hS'.2.2)
  simp only [List.setIfInBounds_toArray, List.set_cons_zero, List.set_cons_succ]
  refine nany_take 5 17 (.int .u32 U) rfl rfl (by kernel_rfl) (by kernel_rfl) (by kernel_rfl) (fun _ _ _ h => h) (Or.inl ⟨by rfl, ?_⟩) hS ?_
  · rintro w' hS'
    first | go_simp | (go_simp; exact hS'.1) | (go_simp; exact hS'.2.1) | (go_simp; exact hS'.2.2)
  simp only [List.setIfInBounds_toArray, List.set_cons_zero, List.set_cons_succ]
  refine nany_take 6 18 (.pointer (some ⟨p, 0, none⟩)) rfl rfl (by kernel_rfl) (by kernel_rfl) (by kernel_rfl) (fun _ _ _ h => h) (Or.inl ⟨by rfl, ?_⟩) hS ?_
  · rintro w' hS'
    first | go_simp | (go_simp; exact hS'.1) | (go_simp; exact hS'.2.1) | (go_simp; exact hS'.2.2)
  simp only [List.setIfInBounds_toArray, List.set_cons_zero, List.set_cons_succ]
  refine nany_take 7 19 (.pointer (some ⟨p, 0, none⟩)) rfl rfl (by kernel_rfl) (by kernel_rfl) (by kernel_rfl) (fun _ _ _ h => h) (Or.inl ⟨by rfl, ?_⟩) hS ?_
  · rintro w' hS'
    first | go_simp | (go_simp; exact hS'.1) | (go_simp; exact hS'.2.1) | (go_simp; exact hS'.2.2)
  simp only [List.setIfInBounds_toArray, List.set_cons_zero, List.set_cons_succ]
  refine nany_take 8 20 (.pointer (some ⟨p, 5, none⟩)) rfl rfl (by kernel_rfl) (by kernel_rfl) (by kernel_rfl) (fun _ _ _ h => h) (Or.inl ⟨by rfl, ?_⟩) hS ?_
  · rintro w' hS'
    first | go_simp | (go_simp; exact hS'.1) | (go_simp; exact hS'.2.1) | (go_simp; exact hS'.2.2)
  simp only [List.setIfInBounds_toArray, List.set_cons_zero, List.set_cons_succ]
  refine nany_take 9 21 (.pointer (some ⟨p, 7, none⟩)) rfl rfl (by kernel_rfl) (by kernel_rfl) (by kernel_rfl) (fun _ _ _ h => h) (Or.inl ⟨by rfl, ?_⟩) hS ?_
  · rintro w' hS'
    first | go_simp | (go_simp; exact hS'.1) | (go_simp; exact hS'.2.1) | (go_simp; exact hS'.2.2)
  simp only [List.setIfInBounds_toArray, List.set_cons_zero, List.set_cons_succ]
  refine nany_take 10 22 (.slice aw wl kw) rfl rfl (by kernel_rfl) (by kernel_rfl) (by kernel_rfl) (fun _ _ _ h => h) (Or.inl ⟨by rfl, ?_⟩) hS ?_
  · rintro w' hS'
    first | go_simp | (go_simp; exact hS'.1) | (go_simp; exact hS'.2.1) | (go_simp; exact hS'.2.2)
  simp only [List.setIfInBounds_toArray, List.set_cons_zero, List.set_cons_succ]
  refine nany_take 11 23 (.int .i64 k) rfl rfl (by kernel_rfl) (by kernel_rfl) (by kernel_rfl) (fun _ _ _ h => h) (Or.inl ⟨by rfl, ?_⟩) hS ?_
  · rintro w' hS'
    first | go_simp | (go_simp; exact hS'.1) | (go_simp; exact hS'.2.1) | (go_simp; exact hS'.2.2)
  simp only [List.setIfInBounds_toArray, List.set_cons_zero, List.set_cons_succ]
  refine nany_take 12 24 (.pointer (some ⟨p, 0, none⟩)) rfl rfl (by kernel_rfl) (by kernel_rfl) (by kernel_rfl) (fun _ _ _ h => h) (Or.inl ⟨by rfl, ?_⟩) hS ?_
  · rintro w' hS'
    first | go_simp | (go_simp; exact hS'.1) | (go_simp; exact hS'.2.1) | (go_simp; exact hS'.2.2)
  simp only [List.setIfInBounds_toArray, List.set_cons_zero, List.set_cons_succ]
  refine nany_take 13 25 (.pointer (some ⟨p, 0, none⟩)) rfl rfl (by kernel_rfl) (by kernel_rfl) (by kernel_rfl) (fun _ _ _ h => h) (Or.inl ⟨by rfl, ?_⟩) hS ?_
  · rintro w' hS'
    first | go_simp | (go_simp; exact hS'.1) | (go_simp; exact hS'.2.1) | (go_simp; exact hS'.2.2)
  simp only [List.setIfInBounds_toArray, List.set_cons_zero, List.set_cons_succ]
  refine nany_take 14 26 (.pointer (some ⟨p, 5, none⟩)) rfl rfl (by kernel_rfl) (by kernel_rfl) (by kernel_rfl) (fun _ _ _ h => h) (Or.inl ⟨by rfl, ?_⟩) hS ?_
  · rintro w' hS'
    first | go_simp | (go_simp; exact hS'.1) | (go_simp; exact hS'.2.1) | (go_simp; exact hS'.2.2)
  simp only [List.setIfInBounds_toArray, List.set_cons_zero, List.set_cons_succ]
  refine nany_take 15 27 (.pointer (some ⟨p, 9, none⟩)) rfl rfl (by kernel_rfl) (by kernel_rfl) (by kernel_rfl) (fun _ _ _ h => h) (Or.inl ⟨by rfl, ?_⟩) hS ?_
  · rintro w' hS'
    first | go_simp | (go_simp; exact hS'.1) | (go_simp; exact hS'.2.1) | (go_simp; exact hS'.2.2)
  simp only [List.setIfInBounds_toArray, List.set_cons_zero, List.set_cons_succ]
  refine nany_take 16 28 (.int .i64 c.M) rfl rfl (by kernel_rfl) (by kernel_rfl) (by kernel_rfl) (fun _ _ _ h => h) (Or.inl ⟨by rfl, ?_⟩) hS ?_
  · rintro w' hS'
    first | go_simp | (go_simp; exact hS'.1) | (go_simp; exact hS'.2.1) | (go_simp; exact hS'.2.2)
  simp only [List.setIfInBounds_toArray, List.set_cons_zero, List.set_cons_succ]
  refine nany_take 17 29 (.int .i64 m) rfl rfl (by kernel_rfl) (by kernel_rfl) (by kernel_rfl) (fun _ _ _ h => h) (Or.inl ⟨by rfl, ?_⟩) hS ?_
  · rintro w' -
    go_simp
  simp only [List.setIfInBounds_toArray, List.set_cons_zero, List.set_cons_succ]
  refine nany_take 18 30 (.slice a3 m kw) rfl rfl (by kernel_rfl) (by kernel_rfl) (by kernel_rfl) (fun _ _ _ h => h) (Or.inl ⟨by rfl, ?_⟩) hS ?_
  · rintro w' -
    go_simp
  simp only [List.setIfInBounds_toArray, List.set_cons_zero, List.set_cons_succ]
  refine nany_one 19 (by kernel_rfl) ?_
  refine nop_callE 31 (f := 27) (args := #[.pointer (some ⟨p, 0, none⟩), .int .i64 16, .int .u32 U, .slice a3 m kw]) (R := fun v w' => ∃ a2 c2, v = .agg (sgC fr to_ U R 16 wn 0 (.slice a2 m c2)) ∧ By w' (New v0) a2 DD ∧ m ≤ c2 ∧ Below v0.heap.size v0 w') rfl (by rfl) rfl (by go_simp) ((HSG.out v0 HX0.out).mono (fun e w' h => by obtain ⟨a2, c2, h1, h2⟩ := h; exact ⟨_, h1, a2, c2, rfl, h2⟩)) ?_
  rintro v v6 ⟨a2, c2, rfl, hy6, hc6, hb6⟩
  have HS6 := hid (And.intro (cell_later hb6 hS.1) (And.intro (cell_later hb6 hS.2.1) (cell_later hb6 hS.2.2)))
  have HB6 := hid (HB0.out.trans (hb6.mono HB0.out.size))
  have H6 := hid ((hb6.block g (Array.getElem?_eq_some_iff.1 H0.out).1).trans H0.out)
  have HY := hid hy6
  have HC := hid hc6
  have HLX := hid (Array.getElem?_eq_some_iff.1 H0.out).1
  have HSZ := hid HB0.out.size
  clear hb6 hy6 hc6
  refine ⟨HS6.out, ?_⟩
  simp only [List.setIfInBounds_toArray, List.set_cons_zero, List.set_cons_succ]
  clear hS
  have hS := HS6.out
  obtain ⟨W9, hW9⟩ : ∃ W, W = v6.setRow g (sgC fr to_ U R 16 wn 0 (.slice a2 m c2)) := ⟨_, rfl⟩
  refine nany_one 20 (by kernel_rfl) ?_
  refine nop_skip (w' := W9) rfl (by rfl) rfl (by rw [hW9]; exact ex_store 30 _ _ rfl g (sgC fr to_ U R 16 wn 0 (.slice a2 m c2)) rfl rfl 30 _ H6.out sizeSg rfl (sgC_one _ _ _ _ _ _ _ _ _ _)) ?_
  have hS9 : W9.cell? ⟨p, 5, none⟩ = some (.int .u32 U) ∧ W9.cell? ⟨p, 7, none⟩ = some (.slice aw wl kw) ∧ W9.cell? ⟨p, 9, none⟩ = some (.int .i64 c.M) := by
    have hk : W9.heap[p]? = v6.heap[p]? := by rw [hW9]; exact setRow_other _ _ _ _ HNE.out
    exact ⟨(World.cell?_of_block hk).trans hS.1, (World.cell?_of_block hk).trans hS.2.1, (World.cell?_of_block hk).trans hS.2.2⟩
  refine ⟨hS9, ?_⟩
  refine wpAnyH_done (by kernel_rfl) ?_ _
  have H9 := hid (show W9.heap[g]? = some (.cells (sgC fr to_ U R 16 wn 0 (.slice a2 m c2)) 30 (0, 0)) by rw [hW9]; exact setRow_heap _ _ _ _ _ _ H6.out)
  have HB9 := hid (show Below w.heap.size w W9 by rw [hW9]; exact (setRow_mods _ _ _).to_below HB6.out HB6.out.size (fun x hx => by rw [hx, HG.out]; exact Nat.le_refl _))
  have HY9 := hid (show By W9 (fun b => w.heap.size ≤ b) a2 DD by rw [hW9]; exact (HY.out.keep (fun x hx hl => setRow_other _ _ _ _ (fun e => by have := HLX.out; rw [e] at hx; exact absurd this (Nat.not_lt.2 hx)))).weak (fun x hx _ => Nat.le_trans HSZ.out hx))
  clear hW9 hS hS9
  go_wp2
  refine bodyPost_ret (results_c rfl _ _ g (sgC fr to_ U R 16 wn 0 (.slice a2 m c2)) _ _ rfl H9.out Try.underlying30 sizeSg) rfl ⟨a2, c2, rfl, HY9.out, HC.out, ?_⟩
  have h2 := HB9.out
  first | exact h2 | (rw [HG.out] at h2; exact h2)
end Go.Proofs.Ytmmijbiapflneaa
