/- The document's Hear. -/
import Derived.Test.YtlflbpemjlgdiaaEjF
namespace Go.Proofs.Ytlflbpemjlgdiaa
open Go.RowKit Go.Maps
set_option linter.unusedVariables false

theorem rbe_in (w : World) (a : Option Addr) (n c : Nat) (l : List Int) (k m : Nat) (hn : l.length = n) (hm : n ≤ maxLen) (hw : widB m = true) (hk : k + m ≤ n) (hb : Bytes w a l) :
    Calls Try.prog 35 #[.slice a n c, .int .i64 k, .int .i64 m] w fun e w' => e = .returned (.tuple #[.int .u64 (beOf ((l.drop k).take m)), .int .i64 0]) ∧ w' = w := by
  subst hn
  refine (refBe_any a c l k m w hm hb).mono ?_
  rintro e w' ⟨rfl, rfl⟩
  have hi : insB l.length k m = true := by simp [insB]; omega
  obtain ⟨e1, _, e2⟩ := rd_yes l k m hw hi
  rw [e1, e2]
  exact ⟨rfl, rfl⟩
def RHearPost (q : Nat) (T : Nat → Prop) (own : Mac) (ip : Int) (L' : List Pe) (out : List Int) (E : Int) (w : World) (e : Ending) (w' : World) : Prop :=
  ∃ a c, e = .returned (.tuple #[.slice a out.length c, .int .i64 E]) ∧ By w' (New w) a out ∧ ∃ T', RPeAt w' q T' own ip L' ∧ Kp T w T' w' ∧ ∀ b, T' b → b < w'.heap.size
set_option maxRecDepth 100000 in
set_option maxHeartbeats 2000000 in
theorem rHear_far1 (w : World) (q : Nat) (T : Nat → Prop) (own : Mac) (ip : Int) (L : List Pe) (m1 m2 : Mac) (a : Option Addr) (n c : Nat) (l : List Int) (h : RPeAt w q T own ip L) (hl : l.length = n) (h28 : 28 ≤ n) (hn2 : n ≤ 1000000) (hnc : n ≤ c) (hb : Bytes w a l) (hhd : macOf l = headM) (hopv : opOf l = 1) (hfar : ipAt l 24 ≠ ip) :
    Calls Try.prog 18 #[.pointer (some ⟨q, 0, none⟩), .agg (frC m1 m2 2054 (.slice a n c))] w (HearNo w 18) := by
  obtain ⟨_, vl, hQ, hPRR⟩ := h
  have HQ := hid hQ
  clear hQ hPRR
  obtain ⟨k, hk⟩ : ∃ k : Int, k = 2054 := ⟨_, rfl⟩
  rw [← hk]
  obtain ⟨g3, hg3⟩ : ∃ g, w.heap.size = g := ⟨_, rfl⟩
  obtain ⟨W1, hW1⟩ : ∃ W, W = w.alloc (.cells (frC m1 m2 k (.slice a n c)) 30) := ⟨_, rfl⟩
  have b1 : Below w.heap.size w W1 := by rw [hW1]; exact below_alloc (Below.refl _ _) (Nat.le_refl _) _
  have h13 : W1.heap[g3]? = some (.cells (frC m1 m2 k (.slice a n c)) 30 (0, 0)) := by rw [hW1, ← hg3]; exact alloc_new w _
  have hck : W1.cell? ⟨g3, 12, none⟩ = some (.int .i64 k) := cell_of h13 rfl
  have hcb : W1.cell? ⟨g3, 13, none⟩ = some (.slice a n c) := cell_of h13 rfl
  have HB1 := hid b1
  have HW := hW1.symm
  subst hk
  have hk7 := op_at l (by rw [hl]; omega)
  obtain ⟨b, off, rfl, hcell⟩ := hb.open_ (by rw [hl]; omega)
  have q6 := cell_later b1 (hcell 6 (by rw [hl]; omega))
  have q7 := cell_later b1 (hcell 7 (by rw [hl]; omega))
  have hI6 := mem_getD l IsB hb.isB 6 (by rw [hl]; omega)
  have hI7 := mem_getD l IsB hb.isB 7 (by rw [hl]; omega)
  generalize l.getD 6 0 = x6 at *
  generalize l.getD 7 0 = x7 at *
  unfold IsB at hI6 hI7
  have HOP := hid hk7
  obtain ⟨op, hop⟩ : ∃ op, opOf l = op := ⟨_, rfl⟩
  rw [hop] at hk7
  have hw1 : IntKind.i64.wrap (256 * x6) = 256 * x6 := IntWalk.i64_in _ (by omega)
  have hw2 : IntKind.i64.wrap (256 * x6 + x7) = op := by rw [IntWalk.i64_in _ (by omega)]; exact hk7.symm
  have hw3 : IntKind.i64.wrap x6 = x6 := IntWalk.i64_in _ (by omega)
  have hw4 : IntKind.i64.wrap x7 = x7 := IntWalk.i64_in _ (by omega)
  have hi28 : ¬ ((n : Int) < 28) := by omega
  have hi6 : ¬ ((n : Int) ≤ 6) := by omega
  have hi7 : ¬ ((n : Int) ≤ 7) := by omega
  have hcut := cutH_run (some ⟨b, off, none⟩) n c 6 (by omega)
  have hcut' : ∀ W : World, (Instr.slice 22 (.slice (some ⟨b, off, none⟩) n c) none (some (.int .i64 6)) none).run Try.prog W = .ok (.slice (some ⟨b, off, none⟩) 6 c) W := hcut
  obtain ⟨s1, hs1⟩ : ∃ s, strOfNums (l.take 6) = s := ⟨_, rfl⟩
  obtain ⟨s2, hs2⟩ : ∃ s, strOfNums headM.l = s := ⟨_, rfl⟩
  have HC1 : Hid (∀ W : World, Bytes W (some ⟨b, off, none⟩) l → (convert 22 9 (.slice (some ⟨b, off, none⟩) 6 c)).run Try.prog W = .ok (.string s1) W) := hid (fun W h => by rw [← hs1]; exact conv0 (h.take 6) (by rw [List.length_take, hl]; omega))
  have HS2 := hid hs2
  have hse := str_eq (l := l.take 6) (m := headM.l) (fun y hy => hb.isB y (List.mem_of_mem_take hy)) headM_ok
  rw [hs1, hs2] at hse
  have HBY := hid hb
  have HL := hid hl
  have HSE : Hid ((s1.toList == s2.toList) = true) := hid (by rw [hse]; exact decide_eq_true ((head_iff l (by omega)).1 hhd))
  obtain rfl : op = 1 := by rw [← hop]; exact hopv
  have hiS := ipAt_bd l 14 hb.isB (by omega)
  have hiT := ipAt_bd l 24 hb.isB (by omega)
  have HIS := hid hiS
  unfold IsU at hiS hiT
  have hrb14 : ∀ W, Below w.heap.size w W → Calls Try.prog 35 #[.slice (some ⟨b, off, none⟩) n c, .int .i64 14, .int .i64 4] W fun e w' => e = .returned (.tuple #[.int .u64 (ipAt l 14), .int .i64 0]) ∧ w' = W := fun W h => rbe_in W _ n c l 14 4 hl (by unfold maxLen; omega) rfl (by omega) (hb.later h)
  have hrb24 : ∀ W, Below w.heap.size w W → Calls Try.prog 35 #[.slice (some ⟨b, off, none⟩) n c, .int .i64 24, .int .i64 4] W fun e w' => e = .returned (.tuple #[.int .u64 (ipAt l 24), .int .i64 0]) ∧ w' = W := fun W h => rbe_in W _ n c l 24 4 hl (by unfold maxLen; omega) rfl (by omega) (hb.later h)
  have HRB14 := hid hrb14
  have HRB24 := hid hrb24
  have hfar2 : (ipAt l 24 != ip) = true := by simpa using hfar
  clear hfar
  generalize ipAt l 14 = iS at *
  generalize ipAt l 24 = iT at *
  have hwS : iS % 4294967296 = iS := Int.emod_eq_of_lt hiS.1 hiS.2
  have hwT : iT % 4294967296 = iT := Int.emod_eq_of_lt hiT.1 hiT.2
  have hwu : IntKind.u32.wrap iS = iS := IntWalk.u32_in _ (by omega)
  clear hW1 b1 h13 hb hcell hcut hs1 hs2 hse hk7 hop hrb14 hrb24 hiS hiT hopv hhd
  go_enter Try.func18, Try.ntmps18
  go_upto_region 6 with fail
  go_quiet (fail)
  obtain ⟨V, hV⟩ : ∃ V, V = W1.drewN nq := ⟨_, rfl⟩
  have HBV : Hid (Below w.heap.size w V) := hid (by rw [hV]; exact below_drewN HB1.out _)
  have HYV := hid (HBY.out.later HBV.out)
  rw [← hV]
  clear hV
  go_upto_region 7 with fail
  refine wp_region_held_drew (S := fun W => Bytes W (some ⟨b, off, none⟩) l) (by kernel_rfl) HYV.out (fun hS => ?_)
  refine nany_take 0 33 (.slice (some ⟨b, off, none⟩) n c) rfl rfl (by kernel_rfl) (by kernel_rfl) (by kernel_rfl) (fun _ _ _ h => h) (Or.inl ⟨by rfl, ?_⟩) hS ?_
  · rintro w' hS'
    go_simp
  simp only [List.setIfInBounds_toArray, List.set_cons_zero, List.set_cons_succ]
  refine nany_take 1 34 (.slice (some ⟨b, off, none⟩) 6 c) rfl rfl (by kernel_rfl) (by kernel_rfl) (by kernel_rfl) (fun _ _ _ h => h) (Or.inl ⟨by rfl, ?_⟩) hS ?_
  · rintro w' hS'
    go_simp
  simp only [List.setIfInBounds_toArray, List.set_cons_zero, List.set_cons_succ]
  refine nany_take 2 35 (.string s1) rfl rfl (by kernel_rfl) (by kernel_rfl) (by kernel_rfl) (fun _ _ _ h => h) (Or.inl ⟨by rfl, ?_⟩) hS ?_
  · rintro w' hS'
    have hc := HC1.out w' hS'; go_simp
  simp only [List.setIfInBounds_toArray, List.set_cons_zero, List.set_cons_succ]
  obtain ⟨gE, hgE⟩ : ∃ g, V.heap.size = g := ⟨_, rfl⟩
  obtain ⟨V2, hV2⟩ : ∃ W, W = V.drew.alloc (.cells #[.int .u8 0, .int .u8 1, .int .u8 8, .int .u8 0, .int .u8 6, .int .u8 4] 5) := ⟨_, rfl⟩
  have bV : Below V.heap.size V V2 := by rw [hV2]; exact ((Below.refl _ _).drew).alloc (Nat.le_refl _) _
  have hyE : Bytes V2 (some ⟨gE, 0, none⟩) headM.l := by rw [hV2, ← hgE]; exact (by_const V.drew headM.l (0, 0) headM_ok).bytes
  have hcE := conv0 (cap := 6) hyE (show headM.l.length = 6 from rfl)
  rw [HS2.out] at hcE
  have hS2 := HYV.out.later bV
  refine nany_one 3 (by kernel_rfl) ?_
  refine nop_value' 36 (v := .slice (some ⟨gE, 0, none⟩) 6 6) (w' := V2) rfl (by rfl) rfl (by rw [hV2, ← hgE]; go_simp) ?_
  clear hV2 hgE
  refine ⟨hS2, ?_⟩
  simp only [List.setIfInBounds_toArray, List.set_cons_zero, List.set_cons_succ]
  refine nany_one 4 (by kernel_rfl) ?_
  refine nop_value' 37 (v := .string s2) (w' := V2) rfl (by rfl) rfl (by go_simp) ?_
  refine ⟨hS2, ?_⟩
  simp only [List.setIfInBounds_toArray, List.set_cons_zero, List.set_cons_succ]
  refine nany_take 5 38 (.bool false) rfl rfl (by kernel_rfl) (by kernel_rfl) (by kernel_rfl) (fun _ _ _ h => h) (Or.inl ⟨by rfl, ?_⟩) hS2 ?_
  · rintro w' hS'
    have hz := HSE.out; simp [execOp, Act.eval, go_sem, hz]
  simp only [List.setIfInBounds_toArray, List.set_cons_zero, List.set_cons_succ]
  refine nany_take 6 39 (.bool false) rfl rfl (by kernel_rfl) (by kernel_rfl) (by kernel_rfl) (fun _ _ _ h => h) (Or.inl ⟨by rfl, ?_⟩) hS2 ?_
  · rintro w' hS'
    go_simp
  simp only [List.setIfInBounds_toArray, List.set_cons_zero, List.set_cons_succ]
  refine nany_take 7 40 (.int .i64 1) rfl rfl (by kernel_rfl) (by kernel_rfl) (by kernel_rfl) (fun _ _ _ h => h) (Or.inl ⟨by rfl, ?_⟩) hS2 ?_
  · rintro w' hS'
    go_simp
  simp only [List.setIfInBounds_toArray, List.set_cons_zero, List.set_cons_succ]
  refine nany_take 8 41 (.bool false) rfl rfl (by kernel_rfl) (by kernel_rfl) (by kernel_rfl) (fun _ _ _ h => h) (Or.inl ⟨by rfl, ?_⟩) hS2 ?_
  · rintro w' hS'
    go_simp
  simp only [List.setIfInBounds_toArray, List.set_cons_zero, List.set_cons_succ]
  refine nany_take 9 42 (.bool false) rfl rfl (by kernel_rfl) (by kernel_rfl) (by kernel_rfl) (fun _ _ _ h => h) (Or.inl ⟨by rfl, ?_⟩) hS2 ?_
  · rintro w' hS'
    go_simp
  simp only [List.setIfInBounds_toArray, List.set_cons_zero, List.set_cons_succ]
  refine nany_skip 10 43 rfl rfl (by kernel_rfl) (by kernel_rfl) (by kernel_rfl) (fun _ _ _ h => h) (by rfl) hS2 ?_
  simp only [List.setIfInBounds_toArray, List.set_cons_zero, List.set_cons_succ]
  refine nany_skip 11 44 rfl rfl (by kernel_rfl) (by kernel_rfl) (by kernel_rfl) (fun _ _ _ h => h) (by rfl) hS2 ?_
  simp only [List.setIfInBounds_toArray, List.set_cons_zero, List.set_cons_succ]
  refine nany_take 12 45 (.bool false) rfl rfl (by kernel_rfl) (by kernel_rfl) (by kernel_rfl) (fun _ _ _ h => h) (Or.inl ⟨by rfl, ?_⟩) hS2 ?_
  · rintro w' hS'
    go_simp
  simp only [List.setIfInBounds_toArray, List.set_cons_zero, List.set_cons_succ]
  refine nany_take 13 46 (.bool false) rfl rfl (by kernel_rfl) (by kernel_rfl) (by kernel_rfl) (fun _ _ _ h => h) (Or.inl ⟨by rfl, ?_⟩) hS2 ?_
  · rintro w' hS'
    go_simp
  simp only [List.setIfInBounds_toArray, List.set_cons_zero, List.set_cons_succ]
  refine wpAnyH_done (by kernel_rfl) ?_ _
  have HBX := hid (HBV.out.trans (bV.mono HBV.out.size))
  have hq2 := (HBX.out.block q (Array.getElem?_eq_some_iff.1 HQ.out).1).trans HQ.out
  have cIP := cell_of hq2 (i := 6) (v := .int .u32 ip) rfl
  clear bV hyE hcE hS2 hS hq2
  go_wp2_with fail
  refine (HRB14.out _ HBX.out).mono ?_
  rintro e wz ⟨rfl, hwz⟩
  obtain rfl : V2 = wz := hwz.symm
  go_wp2_with fail
  refine (HRB24.out _ HBX.out).mono ?_
  rintro e wz ⟨rfl, hwz⟩
  obtain rfl : V2 = wz := hwz.symm
  go_wp2
  go_ret2
  exact ⟨rfl, HBX.out⟩
set_option maxRecDepth 100000 in
set_option maxHeartbeats 2000000 in
theorem rHear_far2 (w : World) (q : Nat) (T : Nat → Prop) (own : Mac) (ip : Int) (L : List Pe) (m1 m2 : Mac) (a : Option Addr) (n c : Nat) (l : List Int) (h : RPeAt w q T own ip L) (hl : l.length = n) (h28 : 28 ≤ n) (hn2 : n ≤ 1000000) (hnc : n ≤ c) (hb : Bytes w a l) (hhd : macOf l = headM) (hopv : opOf l = 2) (hfar : ipAt l 24 ≠ ip) :
    Calls Try.prog 18 #[.pointer (some ⟨q, 0, none⟩), .agg (frC m1 m2 2054 (.slice a n c))] w (HearNo w 18) := by
  obtain ⟨_, vl, hQ, hPRR⟩ := h
  have HQ := hid hQ
  clear hQ hPRR
  obtain ⟨k, hk⟩ : ∃ k : Int, k = 2054 := ⟨_, rfl⟩
  rw [← hk]
  obtain ⟨g3, hg3⟩ : ∃ g, w.heap.size = g := ⟨_, rfl⟩
  obtain ⟨W1, hW1⟩ : ∃ W, W = w.alloc (.cells (frC m1 m2 k (.slice a n c)) 30) := ⟨_, rfl⟩
  have b1 : Below w.heap.size w W1 := by rw [hW1]; exact below_alloc (Below.refl _ _) (Nat.le_refl _) _
  have h13 : W1.heap[g3]? = some (.cells (frC m1 m2 k (.slice a n c)) 30 (0, 0)) := by rw [hW1, ← hg3]; exact alloc_new w _
  have hck : W1.cell? ⟨g3, 12, none⟩ = some (.int .i64 k) := cell_of h13 rfl
  have hcb : W1.cell? ⟨g3, 13, none⟩ = some (.slice a n c) := cell_of h13 rfl
  have HB1 := hid b1
  have HW := hW1.symm
  subst hk
  have hk7 := op_at l (by rw [hl]; omega)
  obtain ⟨b, off, rfl, hcell⟩ := hb.open_ (by rw [hl]; omega)
  have q6 := cell_later b1 (hcell 6 (by rw [hl]; omega))
  have q7 := cell_later b1 (hcell 7 (by rw [hl]; omega))
  have hI6 := mem_getD l IsB hb.isB 6 (by rw [hl]; omega)
  have hI7 := mem_getD l IsB hb.isB 7 (by rw [hl]; omega)
  generalize l.getD 6 0 = x6 at *
  generalize l.getD 7 0 = x7 at *
  unfold IsB at hI6 hI7
  have HOP := hid hk7
  obtain ⟨op, hop⟩ : ∃ op, opOf l = op := ⟨_, rfl⟩
  rw [hop] at hk7
  have hw1 : IntKind.i64.wrap (256 * x6) = 256 * x6 := IntWalk.i64_in _ (by omega)
  have hw2 : IntKind.i64.wrap (256 * x6 + x7) = op := by rw [IntWalk.i64_in _ (by omega)]; exact hk7.symm
  have hw3 : IntKind.i64.wrap x6 = x6 := IntWalk.i64_in _ (by omega)
  have hw4 : IntKind.i64.wrap x7 = x7 := IntWalk.i64_in _ (by omega)
  have hi28 : ¬ ((n : Int) < 28) := by omega
  have hi6 : ¬ ((n : Int) ≤ 6) := by omega
  have hi7 : ¬ ((n : Int) ≤ 7) := by omega
  have hcut := cutH_run (some ⟨b, off, none⟩) n c 6 (by omega)
  have hcut' : ∀ W : World, (Instr.slice 22 (.slice (some ⟨b, off, none⟩) n c) none (some (.int .i64 6)) none).run Try.prog W = .ok (.slice (some ⟨b, off, none⟩) 6 c) W := hcut
  obtain ⟨s1, hs1⟩ : ∃ s, strOfNums (l.take 6) = s := ⟨_, rfl⟩
  obtain ⟨s2, hs2⟩ : ∃ s, strOfNums headM.l = s := ⟨_, rfl⟩
  have HC1 : Hid (∀ W : World, Bytes W (some ⟨b, off, none⟩) l → (convert 22 9 (.slice (some ⟨b, off, none⟩) 6 c)).run Try.prog W = .ok (.string s1) W) := hid (fun W h => by rw [← hs1]; exact conv0 (h.take 6) (by rw [List.length_take, hl]; omega))
  have HS2 := hid hs2
  have hse := str_eq (l := l.take 6) (m := headM.l) (fun y hy => hb.isB y (List.mem_of_mem_take hy)) headM_ok
  rw [hs1, hs2] at hse
  have HBY := hid hb
  have HL := hid hl
  have HSE : Hid ((s1.toList == s2.toList) = true) := hid (by rw [hse]; exact decide_eq_true ((head_iff l (by omega)).1 hhd))
  obtain rfl : op = 2 := by rw [← hop]; exact hopv
  have hiS := ipAt_bd l 14 hb.isB (by omega)
  have hiT := ipAt_bd l 24 hb.isB (by omega)
  have HIS := hid hiS
  unfold IsU at hiS hiT
  have hrb14 : ∀ W, Below w.heap.size w W → Calls Try.prog 35 #[.slice (some ⟨b, off, none⟩) n c, .int .i64 14, .int .i64 4] W fun e w' => e = .returned (.tuple #[.int .u64 (ipAt l 14), .int .i64 0]) ∧ w' = W := fun W h => rbe_in W _ n c l 14 4 hl (by unfold maxLen; omega) rfl (by omega) (hb.later h)
  have hrb24 : ∀ W, Below w.heap.size w W → Calls Try.prog 35 #[.slice (some ⟨b, off, none⟩) n c, .int .i64 24, .int .i64 4] W fun e w' => e = .returned (.tuple #[.int .u64 (ipAt l 24), .int .i64 0]) ∧ w' = W := fun W h => rbe_in W _ n c l 24 4 hl (by unfold maxLen; omega) rfl (by omega) (hb.later h)
  have HRB14 := hid hrb14
  have HRB24 := hid hrb24
  have hfar2 : (ipAt l 24 != ip) = true := by simpa using hfar
  clear hfar
  generalize ipAt l 14 = iS at *
  generalize ipAt l 24 = iT at *
  have hwS : iS % 4294967296 = iS := Int.emod_eq_of_lt hiS.1 hiS.2
  have hwT : iT % 4294967296 = iT := Int.emod_eq_of_lt hiT.1 hiT.2
  have hwu : IntKind.u32.wrap iS = iS := IntWalk.u32_in _ (by omega)
  clear hW1 b1 h13 hb hcell hcut hs1 hs2 hse hk7 hop hrb14 hrb24 hiS hiT hopv hhd
  go_enter Try.func18, Try.ntmps18
  go_upto_region 6 with fail
  go_quiet (fail)
  obtain ⟨V, hV⟩ : ∃ V, V = W1.drewN nq := ⟨_, rfl⟩
  have HBV : Hid (Below w.heap.size w V) := hid (by rw [hV]; exact below_drewN HB1.out _)
  have HYV := hid (HBY.out.later HBV.out)
  rw [← hV]
  clear hV
  go_upto_region 7 with fail
  refine wp_region_held_drew (S := fun W => Bytes W (some ⟨b, off, none⟩) l) (by kernel_rfl) HYV.out (fun hS => ?_)
  refine nany_take 0 33 (.slice (some ⟨b, off, none⟩) n c) rfl rfl (by kernel_rfl) (by kernel_rfl) (by kernel_rfl) (fun _ _ _ h => h) (Or.inl ⟨by rfl, ?_⟩) hS ?_
  · rintro w' hS'
    go_simp
  simp only [List.setIfInBounds_toArray, List.set_cons_zero, List.set_cons_succ]
  refine nany_take 1 34 (.slice (some ⟨b, off, none⟩) 6 c) rfl rfl (by kernel_rfl) (by kernel_rfl) (by kernel_rfl) (fun _ _ _ h => h) (Or.inl ⟨by rfl, ?_⟩) hS ?_
  · rintro w' hS'
    go_simp
  simp only [List.setIfInBounds_toArray, List.set_cons_zero, List.set_cons_succ]
  refine nany_take 2 35 (.string s1) rfl rfl (by kernel_rfl) (by kernel_rfl) (by kernel_rfl) (fun _ _ _ h => h) (Or.inl ⟨by rfl, ?_⟩) hS ?_
  · rintro w' hS'
    have hc := HC1.out w' hS'; go_simp
  simp only [List.setIfInBounds_toArray, List.set_cons_zero, List.set_cons_succ]
  obtain ⟨gE, hgE⟩ : ∃ g, V.heap.size = g := ⟨_, rfl⟩
  obtain ⟨V2, hV2⟩ : ∃ W, W = V.drew.alloc (.cells #[.int .u8 0, .int .u8 1, .int .u8 8, .int .u8 0, .int .u8 6, .int .u8 4] 5) := ⟨_, rfl⟩
  have bV : Below V.heap.size V V2 := by rw [hV2]; exact ((Below.refl _ _).drew).alloc (Nat.le_refl _) _
  have hyE : Bytes V2 (some ⟨gE, 0, none⟩) headM.l := by rw [hV2, ← hgE]; exact (by_const V.drew headM.l (0, 0) headM_ok).bytes
  have hcE := conv0 (cap := 6) hyE (show headM.l.length = 6 from rfl)
  rw [HS2.out] at hcE
  have hS2 := HYV.out.later bV
  refine nany_one 3 (by kernel_rfl) ?_
  refine nop_value' 36 (v := .slice (some ⟨gE, 0, none⟩) 6 6) (w' := V2) rfl (by rfl) rfl (by rw [hV2, ← hgE]; go_simp) ?_
  clear hV2 hgE
  refine ⟨hS2, ?_⟩
  simp only [List.setIfInBounds_toArray, List.set_cons_zero, List.set_cons_succ]
  refine nany_one 4 (by kernel_rfl) ?_
  refine nop_value' 37 (v := .string s2) (w' := V2) rfl (by rfl) rfl (by go_simp) ?_
  refine ⟨hS2, ?_⟩
  simp only [List.setIfInBounds_toArray, List.set_cons_zero, List.set_cons_succ]
  refine nany_take 5 38 (.bool false) rfl rfl (by kernel_rfl) (by kernel_rfl) (by kernel_rfl) (fun _ _ _ h => h) (Or.inl ⟨by rfl, ?_⟩) hS2 ?_
  · rintro w' hS'
    have hz := HSE.out; simp [execOp, Act.eval, go_sem, hz]
  simp only [List.setIfInBounds_toArray, List.set_cons_zero, List.set_cons_succ]
  refine nany_take 6 39 (.bool false) rfl rfl (by kernel_rfl) (by kernel_rfl) (by kernel_rfl) (fun _ _ _ h => h) (Or.inl ⟨by rfl, ?_⟩) hS2 ?_
  · rintro w' hS'
    go_simp
  simp only [List.setIfInBounds_toArray, List.set_cons_zero, List.set_cons_succ]
  refine nany_take 7 40 (.int .i64 2) rfl rfl (by kernel_rfl) (by kernel_rfl) (by kernel_rfl) (fun _ _ _ h => h) (Or.inl ⟨by rfl, ?_⟩) hS2 ?_
  · rintro w' hS'
    go_simp
  simp only [List.setIfInBounds_toArray, List.set_cons_zero, List.set_cons_succ]
  refine nany_take 8 41 (.bool true) rfl rfl (by kernel_rfl) (by kernel_rfl) (by kernel_rfl) (fun _ _ _ h => h) (Or.inl ⟨by rfl, ?_⟩) hS2 ?_
  · rintro w' hS'
    go_simp
  simp only [List.setIfInBounds_toArray, List.set_cons_zero, List.set_cons_succ]
  refine nany_take 9 42 (.bool true) rfl rfl (by kernel_rfl) (by kernel_rfl) (by kernel_rfl) (fun _ _ _ h => h) (Or.inl ⟨by rfl, ?_⟩) hS2 ?_
  · rintro w' hS'
    go_simp
  simp only [List.setIfInBounds_toArray, List.set_cons_zero, List.set_cons_succ]
  refine nany_take 10 43 (.int .i64 2) rfl rfl (by kernel_rfl) (by kernel_rfl) (by kernel_rfl) (fun _ _ _ h => h) (Or.inl ⟨by rfl, ?_⟩) hS2 ?_
  · rintro w' hS'
    go_simp
  simp only [List.setIfInBounds_toArray, List.set_cons_zero, List.set_cons_succ]
  refine nany_take 11 44 (.bool false) rfl rfl (by kernel_rfl) (by kernel_rfl) (by kernel_rfl) (fun _ _ _ h => h) (Or.inl ⟨by rfl, ?_⟩) hS2 ?_
  · rintro w' hS'
    go_simp
  simp only [List.setIfInBounds_toArray, List.set_cons_zero, List.set_cons_succ]
  refine nany_take 12 45 (.bool false) rfl rfl (by kernel_rfl) (by kernel_rfl) (by kernel_rfl) (fun _ _ _ h => h) (Or.inl ⟨by rfl, ?_⟩) hS2 ?_
  · rintro w' hS'
    go_simp
  simp only [List.setIfInBounds_toArray, List.set_cons_zero, List.set_cons_succ]
  refine nany_take 13 46 (.bool false) rfl rfl (by kernel_rfl) (by kernel_rfl) (by kernel_rfl) (fun _ _ _ h => h) (Or.inl ⟨by rfl, ?_⟩) hS2 ?_
  · rintro w' hS'
    go_simp
  simp only [List.setIfInBounds_toArray, List.set_cons_zero, List.set_cons_succ]
  refine wpAnyH_done (by kernel_rfl) ?_ _
  have HBX := hid (HBV.out.trans (bV.mono HBV.out.size))
  have hq2 := (HBX.out.block q (Array.getElem?_eq_some_iff.1 HQ.out).1).trans HQ.out
  have cIP := cell_of hq2 (i := 6) (v := .int .u32 ip) rfl
  clear bV hyE hcE hS2 hS hq2
  go_wp2_with fail
  refine (HRB14.out _ HBX.out).mono ?_
  rintro e wz ⟨rfl, hwz⟩
  obtain rfl : V2 = wz := hwz.symm
  go_wp2_with fail
  refine (HRB24.out _ HBX.out).mono ?_
  rintro e wz ⟨rfl, hwz⟩
  obtain rfl : V2 = wz := hwz.symm
  go_wp2
  go_ret2
  exact ⟨rfl, HBX.out⟩
set_option maxRecDepth 100000 in
set_option maxHeartbeats 4000000 in
theorem rHear_two (w : World) (q : Nat) (T : Nat → Prop) (own : Mac) (ip : Int) (L : List Pe) (m1 m2 : Mac) (a : Option Addr) (n c : Nat) (l : List Int) (h : RPeAt w q T own ip L) (hT : ∀ b, T b → b < w.heap.size) (hl : l.length = n) (h28 : 28 ≤ n) (hn2 : n ≤ 1000000) (hnc : n ≤ c) (hb : Bytes w a l) (hhd : macOf l = headM) (hopv : opOf l = 2) (hnear : ipAt l 24 = ip) :
    Calls Try.prog 18 #[.pointer (some ⟨q, 0, none⟩), .agg (frC m1 m2 2054 (.slice a n c))] w (RHearPost q T own ip (learnL L (ipAt l 14) (macOf (l.drop 8))) [] 0 w) := by
  have HRP := hid h
  have HT := hid hT
  obtain ⟨⟨how, hip, _, _⟩, vl, hQ, hPRR⟩ := h
  have HQ := hid hQ
  have HOW := hid how
  have HIP := hid hip
  clear hQ hPRR hT how hip
  obtain ⟨k, hk⟩ : ∃ k : Int, k = 2054 := ⟨_, rfl⟩
  rw [← hk]
  obtain ⟨g3, hg3⟩ : ∃ g, w.heap.size = g := ⟨_, rfl⟩
  obtain ⟨W1, hW1⟩ : ∃ W, W = w.alloc (.cells (frC m1 m2 k (.slice a n c)) 30) := ⟨_, rfl⟩
  have b1 : Below w.heap.size w W1 := by rw [hW1]; exact below_alloc (Below.refl _ _) (Nat.le_refl _) _
  have h13 : W1.heap[g3]? = some (.cells (frC m1 m2 k (.slice a n c)) 30 (0, 0)) := by rw [hW1, ← hg3]; exact alloc_new w _
  have hck : W1.cell? ⟨g3, 12, none⟩ = some (.int .i64 k) := cell_of h13 rfl
  have hcb : W1.cell? ⟨g3, 13, none⟩ = some (.slice a n c) := cell_of h13 rfl
  have HB1 := hid b1
  have HW := hW1.symm
  subst hk
  have hk7 := op_at l (by rw [hl]; omega)
  obtain ⟨b, off, rfl, hcell⟩ := hb.open_ (by rw [hl]; omega)
  have q6 := cell_later b1 (hcell 6 (by rw [hl]; omega))
  have q7 := cell_later b1 (hcell 7 (by rw [hl]; omega))
  have hI6 := mem_getD l IsB hb.isB 6 (by rw [hl]; omega)
  have hI7 := mem_getD l IsB hb.isB 7 (by rw [hl]; omega)
  generalize l.getD 6 0 = x6 at *
  generalize l.getD 7 0 = x7 at *
  unfold IsB at hI6 hI7
  have HOP := hid hk7
  obtain ⟨op, hop⟩ : ∃ op, opOf l = op := ⟨_, rfl⟩
  rw [hop] at hk7
  have hw1 : IntKind.i64.wrap (256 * x6) = 256 * x6 := IntWalk.i64_in _ (by omega)
  have hw2 : IntKind.i64.wrap (256 * x6 + x7) = op := by rw [IntWalk.i64_in _ (by omega)]; exact hk7.symm
  have hw3 : IntKind.i64.wrap x6 = x6 := IntWalk.i64_in _ (by omega)
  have hw4 : IntKind.i64.wrap x7 = x7 := IntWalk.i64_in _ (by omega)
  have hi28 : ¬ ((n : Int) < 28) := by omega
  have hi6 : ¬ ((n : Int) ≤ 6) := by omega
  have hi7 : ¬ ((n : Int) ≤ 7) := by omega
  have hcut := cutH_run (some ⟨b, off, none⟩) n c 6 (by omega)
  have hcut' : ∀ W : World, (Instr.slice 22 (.slice (some ⟨b, off, none⟩) n c) none (some (.int .i64 6)) none).run Try.prog W = .ok (.slice (some ⟨b, off, none⟩) 6 c) W := hcut
  obtain ⟨s1, hs1⟩ : ∃ s, strOfNums (l.take 6) = s := ⟨_, rfl⟩
  obtain ⟨s2, hs2⟩ : ∃ s, strOfNums headM.l = s := ⟨_, rfl⟩
  have HC1 : Hid (∀ W : World, Bytes W (some ⟨b, off, none⟩) l → (convert 22 9 (.slice (some ⟨b, off, none⟩) 6 c)).run Try.prog W = .ok (.string s1) W) := hid (fun W h => by rw [← hs1]; exact conv0 (h.take 6) (by rw [List.length_take, hl]; omega))
  have HS2 := hid hs2
  have hse := str_eq (l := l.take 6) (m := headM.l) (fun y hy => hb.isB y (List.mem_of_mem_take hy)) headM_ok
  rw [hs1, hs2] at hse
  have HBY := hid hb
  have HL := hid hl
  have HSE : Hid ((s1.toList == s2.toList) = true) := hid (by rw [hse]; exact decide_eq_true ((head_iff l (by omega)).1 hhd))
  obtain rfl : op = 2 := by rw [← hop]; exact hopv
  have hiS := ipAt_bd l 14 hb.isB (by omega)
  have hiT := ipAt_bd l 24 hb.isB (by omega)
  have HIS := hid hiS
  unfold IsU at hiS hiT
  have hrb14 : ∀ W, Below w.heap.size w W → Calls Try.prog 35 #[.slice (some ⟨b, off, none⟩) n c, .int .i64 14, .int .i64 4] W fun e w' => e = .returned (.tuple #[.int .u64 (ipAt l 14), .int .i64 0]) ∧ w' = W := fun W h => rbe_in W _ n c l 14 4 hl (by unfold maxLen; omega) rfl (by omega) (hb.later h)
  have hrb24 : ∀ W, Below w.heap.size w W → Calls Try.prog 35 #[.slice (some ⟨b, off, none⟩) n c, .int .i64 24, .int .i64 4] W fun e w' => e = .returned (.tuple #[.int .u64 (ipAt l 24), .int .i64 0]) ∧ w' = W := fun W h => rbe_in W _ n c l 24 4 hl (by unfold maxLen; omega) rfl (by omega) (hb.later h)
  have HRB14 := hid hrb14
  have HRB24 := hid hrb24
  have hnear2 : (ipAt l 24 != ip) = false := by simpa using hnear
  have HMS := hid (macOf_ok (l.drop 8) (by simp; omega) (fun x hx => hb.isB x (List.mem_of_mem_drop hx)))
  obtain ⟨a8, s8, c8⟩ := cutL b off n c 8 (by omega) hnc
  have s8' : ∀ W : World, (Instr.slice 22 (.slice (some ⟨b, off, none⟩) n c) (some (.int .i64 8)) none none).run Try.prog W = .ok (.slice a8 (n - 8) (c - 8)) W := s8
  have HMC : Hid (∀ W, Below w.heap.size w W → Calls Try.prog 27 #[.slice a8 (n - 8) (c - 8)] W fun e w' => e = .returned (.agg (macC (macOf (l.drop 8)))) ∧ Below W.heap.size W w') := hid (fun W h => mac_any W a8 (n - 8) (c - 8) (l.drop 8) (by simp; omega) (by omega) (c8 W l hl (hb.later h)))
  clear hnear s8 c8
  generalize macOf (l.drop 8) = mS at *
  generalize ipAt l 14 = iS at *
  generalize ipAt l 24 = iT at *
  have hwS : iS % 4294967296 = iS := Int.emod_eq_of_lt hiS.1 hiS.2
  have hwT : iT % 4294967296 = iT := Int.emod_eq_of_lt hiT.1 hiT.2
  have hwu : IntKind.u32.wrap iS = iS := IntWalk.u32_in _ (by omega)
  clear hW1 b1 h13 hb hcell hcut hs1 hs2 hse hk7 hop hrb14 hrb24 hiS hiT hopv hhd
  go_enter Try.func18, Try.ntmps18
  go_upto_region 6 with fail
  go_quiet (fail)
  obtain ⟨V, hV⟩ : ∃ V, V = W1.drewN nq := ⟨_, rfl⟩
  have HBV : Hid (Below w.heap.size w V) := hid (by rw [hV]; exact below_drewN HB1.out _)
  have HYV := hid (HBY.out.later HBV.out)
  rw [← hV]
  clear hV
  go_upto_region 7 with fail
  refine wp_region_held_drew (S := fun W => Bytes W (some ⟨b, off, none⟩) l) (by kernel_rfl) HYV.out (fun hS => ?_)
  refine nany_take 0 33 (.slice (some ⟨b, off, none⟩) n c) rfl rfl (by kernel_rfl) (by kernel_rfl) (by kernel_rfl) (fun _ _ _ h => h) (Or.inl ⟨by rfl, ?_⟩) hS ?_
  · rintro w' hS'
    go_simp
  simp only [List.setIfInBounds_toArray, List.set_cons_zero, List.set_cons_succ]
  refine nany_take 1 34 (.slice (some ⟨b, off, none⟩) 6 c) rfl rfl (by kernel_rfl) (by kernel_rfl) (by kernel_rfl) (fun _ _ _ h => h) (Or.inl ⟨by rfl, ?_⟩) hS ?_
  · rintro w' hS'
    go_simp
  simp only [List.setIfInBounds_toArray, List.set_cons_zero, List.set_cons_succ]
  refine nany_take 2 35 (.string s1) rfl rfl (by kernel_rfl) (by kernel_rfl) (by kernel_rfl) (fun _ _ _ h => h) (Or.inl ⟨by rfl, ?_⟩) hS ?_
  · rintro w' hS'
    have hc := HC1.out w' hS'; go_simp
  simp only [List.setIfInBounds_toArray, List.set_cons_zero, List.set_cons_succ]
  obtain ⟨gE, hgE⟩ : ∃ g, V.heap.size = g := ⟨_, rfl⟩
  obtain ⟨V2, hV2⟩ : ∃ W, W = V.drew.alloc (.cells #[.int .u8 0, .int .u8 1, .int .u8 8, .int .u8 0, .int .u8 6, .int .u8 4] 5) := ⟨_, rfl⟩
  have bV : Below V.heap.size V V2 := by rw [hV2]; exact ((Below.refl _ _).drew).alloc (Nat.le_refl _) _
  have hyE : Bytes V2 (some ⟨gE, 0, none⟩) headM.l := by rw [hV2, ← hgE]; exact (by_const V.drew headM.l (0, 0) headM_ok).bytes
  have hcE := conv0 (cap := 6) hyE (show headM.l.length = 6 from rfl)
  rw [HS2.out] at hcE
  have hS2 := HYV.out.later bV
  refine nany_one 3 (by kernel_rfl) ?_
  refine nop_value' 36 (v := .slice (some ⟨gE, 0, none⟩) 6 6) (w' := V2) rfl (by rfl) rfl (by rw [hV2, ← hgE]; go_simp) ?_
  clear hV2 hgE
  refine ⟨hS2, ?_⟩
  simp only [List.setIfInBounds_toArray, List.set_cons_zero, List.set_cons_succ]
  refine nany_one 4 (by kernel_rfl) ?_
  refine nop_value' 37 (v := .string s2) (w' := V2) rfl (by rfl) rfl (by go_simp) ?_
  refine ⟨hS2, ?_⟩
  simp only [List.setIfInBounds_toArray, List.set_cons_zero, List.set_cons_succ]
  refine nany_take 5 38 (.bool false) rfl rfl (by kernel_rfl) (by kernel_rfl) (by kernel_rfl) (fun _ _ _ h => h) (Or.inl ⟨by rfl, ?_⟩) hS2 ?_
  · rintro w' hS'
    have hz := HSE.out; simp [execOp, Act.eval, go_sem, hz]
  simp only [List.setIfInBounds_toArray, List.set_cons_zero, List.set_cons_succ]
  refine nany_take 6 39 (.bool false) rfl rfl (by kernel_rfl) (by kernel_rfl) (by kernel_rfl) (fun _ _ _ h => h) (Or.inl ⟨by rfl, ?_⟩) hS2 ?_
  · rintro w' hS'
    go_simp
  simp only [List.setIfInBounds_toArray, List.set_cons_zero, List.set_cons_succ]
  refine nany_take 7 40 (.int .i64 2) rfl rfl (by kernel_rfl) (by kernel_rfl) (by kernel_rfl) (fun _ _ _ h => h) (Or.inl ⟨by rfl, ?_⟩) hS2 ?_
  · rintro w' hS'
    go_simp
  simp only [List.setIfInBounds_toArray, List.set_cons_zero, List.set_cons_succ]
  refine nany_take 8 41 (.bool true) rfl rfl (by kernel_rfl) (by kernel_rfl) (by kernel_rfl) (fun _ _ _ h => h) (Or.inl ⟨by rfl, ?_⟩) hS2 ?_
  · rintro w' hS'
    go_simp
  simp only [List.setIfInBounds_toArray, List.set_cons_zero, List.set_cons_succ]
  refine nany_take 9 42 (.bool true) rfl rfl (by kernel_rfl) (by kernel_rfl) (by kernel_rfl) (fun _ _ _ h => h) (Or.inl ⟨by rfl, ?_⟩) hS2 ?_
  · rintro w' hS'
    go_simp
  simp only [List.setIfInBounds_toArray, List.set_cons_zero, List.set_cons_succ]
  refine nany_take 10 43 (.int .i64 2) rfl rfl (by kernel_rfl) (by kernel_rfl) (by kernel_rfl) (fun _ _ _ h => h) (Or.inl ⟨by rfl, ?_⟩) hS2 ?_
  · rintro w' hS'
    go_simp
  simp only [List.setIfInBounds_toArray, List.set_cons_zero, List.set_cons_succ]
  refine nany_take 11 44 (.bool false) rfl rfl (by kernel_rfl) (by kernel_rfl) (by kernel_rfl) (fun _ _ _ h => h) (Or.inl ⟨by rfl, ?_⟩) hS2 ?_
  · rintro w' hS'
    go_simp
  simp only [List.setIfInBounds_toArray, List.set_cons_zero, List.set_cons_succ]
  refine nany_take 12 45 (.bool false) rfl rfl (by kernel_rfl) (by kernel_rfl) (by kernel_rfl) (fun _ _ _ h => h) (Or.inl ⟨by rfl, ?_⟩) hS2 ?_
  · rintro w' hS'
    go_simp
  simp only [List.setIfInBounds_toArray, List.set_cons_zero, List.set_cons_succ]
  refine nany_take 13 46 (.bool false) rfl rfl (by kernel_rfl) (by kernel_rfl) (by kernel_rfl) (fun _ _ _ h => h) (Or.inl ⟨by rfl, ?_⟩) hS2 ?_
  · rintro w' hS'
    go_simp
  simp only [List.setIfInBounds_toArray, List.set_cons_zero, List.set_cons_succ]
  refine wpAnyH_done (by kernel_rfl) ?_ _
  have HBX := hid (HBV.out.trans (bV.mono HBV.out.size))
  have hq2 := (HBX.out.block q (Array.getElem?_eq_some_iff.1 HQ.out).1).trans HQ.out
  have cIP := cell_of hq2 (i := 6) (v := .int .u32 ip) rfl
  clear bV hyE hcE hS2 hS hq2
  go_wp2_with fail
  refine (HRB14.out _ HBX.out).mono ?_
  rintro e wz ⟨rfl, hwz⟩
  obtain rfl : V2 = wz := hwz.symm
  go_wp2_with fail
  refine (HRB24.out _ HBX.out).mono ?_
  rintro e wz ⟨rfl, hwz⟩
  obtain rfl : V2 = wz := hwz.symm
  go_wp2_with fail
  refine (HMC.out _ HBX.out).mono ?_
  rintro e w5 ⟨rfl, hb5⟩
  obtain ⟨g12, hg12⟩ : ∃ g, w5.heap.size = g := ⟨_, rfl⟩
  obtain ⟨V6, hV6, hv6, W7, hW7, h7, hb7⟩ := box6 w5 mS
  have hB5 := HBX.out.trans (hb5.mono HBX.out.size)
  have hB7 := hB5.trans (hb7.mono hB5.size)
  have hgw : w.heap.size ≤ g12 := by rw [← hg12]; exact hB5.size
  rw [hg12] at hv6 hW7 h7
  have HLN := hid (rLearn_any W7 q T own ip L iS mS (HRP.out.later hB7) (fun b hb => Nat.lt_of_lt_of_le (HT.out b hb) hB7.size) HIS.out HMS.out)
  have HV6 := hid hV6
  have HVv6 := hid hv6
  have HW7 := hid hW7
  have H7 := hid h7
  have HB7 := hid hB7
  have HGW := hid hgw
  clear hb5 hV6 hv6 hW7 h7 hb7 hB5 hB7 hgw cIP
  go_wp2_with (first
    | (rw [← HV6.out]; clear HV6; refine wpList_store_row rfl 23 _ _ rfl g12 (macC mS) rfl rfl 23 _ HVv6.out size6 rfl (macC_one _) ?_; rw [← HW7.out]; clear HW7)
    | (refine wpList_load_row rfl 23 _ rfl g12 rfl 23 _ (0, 0) _ H7.out Try.underlying23 rfl size6 ?_))
  refine HLN.out.mono ?_
  rintro e w8 ⟨rfl, T8, hrp8, hk8, ht8⟩
  have h8m := (hk8.block (Array.getElem?_eq_some_iff.1 H7.out).1 (fun e => by have := HT.out g12 e; have := HGW.out; omega)).trans H7.out
  have H8m := hid h8m
  have HRP8 := hid hrp8
  have HK8 := hid ((Kp.below HB7.out).trans hk8)
  have HT8 := hid ht8
  clear hrp8 hk8 ht8 h8m
  go_wp2
  go_ret2
  exact ⟨none, 0, rfl, By.nil _ _ _, T8, HRP8.out, HK8.out, HT8.out⟩
set_option maxRecDepth 100000 in
set_option maxHeartbeats 4000000 in
theorem rHear_one (w : World) (q : Nat) (T : Nat → Prop) (own : Mac) (ip : Int) (L : List Pe) (m1 m2 : Mac) (a : Option Addr) (n c : Nat) (l : List Int) (h : RPeAt w q T own ip L) (hT : ∀ b, T b → b < w.heap.size) (hl : l.length = n) (h28 : 28 ≤ n) (hn2 : n ≤ 1000000) (hnc : n ≤ c) (hb : Bytes w a l) (hhd : macOf l = headM) (hopv : opOf l = 1) (hnear : ipAt l 24 = ip) :
    Calls Try.prog 18 #[.pointer (some ⟨q, 0, none⟩), .agg (frC m1 m2 2054 (.slice a n c))] w (RHearPost q T own ip (learnL L (ipAt l 14) (macOf (l.drop 8))) (frL (macOf (l.drop 8)) own 2054 (arpL 2 own ip (macOf (l.drop 8)) (ipAt l 14))) 0 w) := by
  have HRP := hid h
  have HT := hid hT
  obtain ⟨⟨how, hip, _, _⟩, vl, hQ, hPRR⟩ := h
  have HQ := hid hQ
  have HOW := hid how
  have HIP := hid hip
  clear hQ hPRR hT how hip
  obtain ⟨k, hk⟩ : ∃ k : Int, k = 2054 := ⟨_, rfl⟩
  rw [← hk]
  obtain ⟨g3, hg3⟩ : ∃ g, w.heap.size = g := ⟨_, rfl⟩
  obtain ⟨W1, hW1⟩ : ∃ W, W = w.alloc (.cells (frC m1 m2 k (.slice a n c)) 30) := ⟨_, rfl⟩
  have b1 : Below w.heap.size w W1 := by rw [hW1]; exact below_alloc (Below.refl _ _) (Nat.le_refl _) _
  have h13 : W1.heap[g3]? = some (.cells (frC m1 m2 k (.slice a n c)) 30 (0, 0)) := by rw [hW1, ← hg3]; exact alloc_new w _
  have hck : W1.cell? ⟨g3, 12, none⟩ = some (.int .i64 k) := cell_of h13 rfl
  have hcb : W1.cell? ⟨g3, 13, none⟩ = some (.slice a n c) := cell_of h13 rfl
  have HB1 := hid b1
  have HW := hW1.symm
  subst hk
  have hk7 := op_at l (by rw [hl]; omega)
  obtain ⟨b, off, rfl, hcell⟩ := hb.open_ (by rw [hl]; omega)
  have q6 := cell_later b1 (hcell 6 (by rw [hl]; omega))
  have q7 := cell_later b1 (hcell 7 (by rw [hl]; omega))
  have hI6 := mem_getD l IsB hb.isB 6 (by rw [hl]; omega)
  have hI7 := mem_getD l IsB hb.isB 7 (by rw [hl]; omega)
  generalize l.getD 6 0 = x6 at *
  generalize l.getD 7 0 = x7 at *
  unfold IsB at hI6 hI7
  have HOP := hid hk7
  obtain ⟨op, hop⟩ : ∃ op, opOf l = op := ⟨_, rfl⟩
  rw [hop] at hk7
  have hw1 : IntKind.i64.wrap (256 * x6) = 256 * x6 := IntWalk.i64_in _ (by omega)
  have hw2 : IntKind.i64.wrap (256 * x6 + x7) = op := by rw [IntWalk.i64_in _ (by omega)]; exact hk7.symm
  have hw3 : IntKind.i64.wrap x6 = x6 := IntWalk.i64_in _ (by omega)
  have hw4 : IntKind.i64.wrap x7 = x7 := IntWalk.i64_in _ (by omega)
  have hi28 : ¬ ((n : Int) < 28) := by omega
  have hi6 : ¬ ((n : Int) ≤ 6) := by omega
  have hi7 : ¬ ((n : Int) ≤ 7) := by omega
  have hcut := cutH_run (some ⟨b, off, none⟩) n c 6 (by omega)
  have hcut' : ∀ W : World, (Instr.slice 22 (.slice (some ⟨b, off, none⟩) n c) none (some (.int .i64 6)) none).run Try.prog W = .ok (.slice (some ⟨b, off, none⟩) 6 c) W := hcut
  obtain ⟨s1, hs1⟩ : ∃ s, strOfNums (l.take 6) = s := ⟨_, rfl⟩
  obtain ⟨s2, hs2⟩ : ∃ s, strOfNums headM.l = s := ⟨_, rfl⟩
  have HC1 : Hid (∀ W : World, Bytes W (some ⟨b, off, none⟩) l → (convert 22 9 (.slice (some ⟨b, off, none⟩) 6 c)).run Try.prog W = .ok (.string s1) W) := hid (fun W h => by rw [← hs1]; exact conv0 (h.take 6) (by rw [List.length_take, hl]; omega))
  have HS2 := hid hs2
  have hse := str_eq (l := l.take 6) (m := headM.l) (fun y hy => hb.isB y (List.mem_of_mem_take hy)) headM_ok
  rw [hs1, hs2] at hse
  have HBY := hid hb
  have HL := hid hl
  have HSE : Hid ((s1.toList == s2.toList) = true) := hid (by rw [hse]; exact decide_eq_true ((head_iff l (by omega)).1 hhd))
  obtain rfl : op = 1 := by rw [← hop]; exact hopv
  have hiS := ipAt_bd l 14 hb.isB (by omega)
  have hiT := ipAt_bd l 24 hb.isB (by omega)
  have HIS := hid hiS
  unfold IsU at hiS hiT
  have hrb14 : ∀ W, Below w.heap.size w W → Calls Try.prog 35 #[.slice (some ⟨b, off, none⟩) n c, .int .i64 14, .int .i64 4] W fun e w' => e = .returned (.tuple #[.int .u64 (ipAt l 14), .int .i64 0]) ∧ w' = W := fun W h => rbe_in W _ n c l 14 4 hl (by unfold maxLen; omega) rfl (by omega) (hb.later h)
  have hrb24 : ∀ W, Below w.heap.size w W → Calls Try.prog 35 #[.slice (some ⟨b, off, none⟩) n c, .int .i64 24, .int .i64 4] W fun e w' => e = .returned (.tuple #[.int .u64 (ipAt l 24), .int .i64 0]) ∧ w' = W := fun W h => rbe_in W _ n c l 24 4 hl (by unfold maxLen; omega) rfl (by omega) (hb.later h)
  have HRB14 := hid hrb14
  have HRB24 := hid hrb24
  have hnear2 : (ipAt l 24 != ip) = false := by simpa using hnear
  have HMS := hid (macOf_ok (l.drop 8) (by simp; omega) (fun x hx => hb.isB x (List.mem_of_mem_drop hx)))
  obtain ⟨a8, s8, c8⟩ := cutL b off n c 8 (by omega) hnc
  have s8' : ∀ W : World, (Instr.slice 22 (.slice (some ⟨b, off, none⟩) n c) (some (.int .i64 8)) none none).run Try.prog W = .ok (.slice a8 (n - 8) (c - 8)) W := s8
  have HMC : Hid (∀ W, Below w.heap.size w W → Calls Try.prog 27 #[.slice a8 (n - 8) (c - 8)] W fun e w' => e = .returned (.agg (macC (macOf (l.drop 8)))) ∧ Below W.heap.size W w') := hid (fun W h => mac_any W a8 (n - 8) (c - 8) (l.drop 8) (by simp; omega) (by omega) (c8 W l hl (hb.later h)))
  clear hnear s8 c8
  generalize macOf (l.drop 8) = mS at *
  generalize ipAt l 14 = iS at *
  generalize ipAt l 24 = iT at *
  have hwS : iS % 4294967296 = iS := Int.emod_eq_of_lt hiS.1 hiS.2
  have hwT : iT % 4294967296 = iT := Int.emod_eq_of_lt hiT.1 hiT.2
  have hwu : IntKind.u32.wrap iS = iS := IntWalk.u32_in _ (by omega)
  clear hW1 b1 h13 hb hcell hcut hs1 hs2 hse hk7 hop hrb14 hrb24 hiS hiT hopv hhd
  go_enter Try.func18, Try.ntmps18
  go_upto_region 6 with fail
  go_quiet (fail)
  obtain ⟨V, hV⟩ : ∃ V, V = W1.drewN nq := ⟨_, rfl⟩
  have HBV : Hid (Below w.heap.size w V) := hid (by rw [hV]; exact below_drewN HB1.out _)
  have HYV := hid (HBY.out.later HBV.out)
  rw [← hV]
  clear hV
  go_upto_region 7 with fail
  refine wp_region_held_drew (S := fun W => Bytes W (some ⟨b, off, none⟩) l) (by kernel_rfl) HYV.out (fun hS => ?_)
  refine nany_take 0 33 (.slice (some ⟨b, off, none⟩) n c) rfl rfl (by kernel_rfl) (by kernel_rfl) (by kernel_rfl) (fun _ _ _ h => h) (Or.inl ⟨by rfl, ?_⟩) hS ?_
  · rintro w' hS'
    go_simp
  simp only [List.setIfInBounds_toArray, List.set_cons_zero, List.set_cons_succ]
  refine nany_take 1 34 (.slice (some ⟨b, off, none⟩) 6 c) rfl rfl (by kernel_rfl) (by kernel_rfl) (by kernel_rfl) (fun _ _ _ h => h) (Or.inl ⟨by rfl, ?_⟩) hS ?_
  · rintro w' hS'
    go_simp
  simp only [List.setIfInBounds_toArray, List.set_cons_zero, List.set_cons_succ]
  refine nany_take 2 35 (.string s1) rfl rfl (by kernel_rfl) (by kernel_rfl) (by kernel_rfl) (fun _ _ _ h => h) (Or.inl ⟨by rfl, ?_⟩) hS ?_
  · rintro w' hS'
    have hc := HC1.out w' hS'; go_simp
  simp only [List.setIfInBounds_toArray, List.set_cons_zero, List.set_cons_succ]
  obtain ⟨gE, hgE⟩ : ∃ g, V.heap.size = g := ⟨_, rfl⟩
  obtain ⟨V2, hV2⟩ : ∃ W, W = V.drew.alloc (.cells #[.int .u8 0, .int .u8 1, .int .u8 8, .int .u8 0, .int .u8 6, .int .u8 4] 5) := ⟨_, rfl⟩
  have bV : Below V.heap.size V V2 := by rw [hV2]; exact ((Below.refl _ _).drew).alloc (Nat.le_refl _) _
  have hyE : Bytes V2 (some ⟨gE, 0, none⟩) headM.l := by rw [hV2, ← hgE]; exact (by_const V.drew headM.l (0, 0) headM_ok).bytes
  have hcE := conv0 (cap := 6) hyE (show headM.l.length = 6 from rfl)
  rw [HS2.out] at hcE
  have hS2 := HYV.out.later bV
  refine nany_one 3 (by kernel_rfl) ?_
  refine nop_value' 36 (v := .slice (some ⟨gE, 0, none⟩) 6 6) (w' := V2) rfl (by rfl) rfl (by rw [hV2, ← hgE]; go_simp) ?_
  clear hV2 hgE
  refine ⟨hS2, ?_⟩
  simp only [List.setIfInBounds_toArray, List.set_cons_zero, List.set_cons_succ]
  refine nany_one 4 (by kernel_rfl) ?_
  refine nop_value' 37 (v := .string s2) (w' := V2) rfl (by rfl) rfl (by go_simp) ?_
  refine ⟨hS2, ?_⟩
  simp only [List.setIfInBounds_toArray, List.set_cons_zero, List.set_cons_succ]
  refine nany_take 5 38 (.bool false) rfl rfl (by kernel_rfl) (by kernel_rfl) (by kernel_rfl) (fun _ _ _ h => h) (Or.inl ⟨by rfl, ?_⟩) hS2 ?_
  · rintro w' hS'
    have hz := HSE.out; simp [execOp, Act.eval, go_sem, hz]
  simp only [List.setIfInBounds_toArray, List.set_cons_zero, List.set_cons_succ]
  refine nany_take 6 39 (.bool false) rfl rfl (by kernel_rfl) (by kernel_rfl) (by kernel_rfl) (fun _ _ _ h => h) (Or.inl ⟨by rfl, ?_⟩) hS2 ?_
  · rintro w' hS'
    go_simp
  simp only [List.setIfInBounds_toArray, List.set_cons_zero, List.set_cons_succ]
  refine nany_take 7 40 (.int .i64 1) rfl rfl (by kernel_rfl) (by kernel_rfl) (by kernel_rfl) (fun _ _ _ h => h) (Or.inl ⟨by rfl, ?_⟩) hS2 ?_
  · rintro w' hS'
    go_simp
  simp only [List.setIfInBounds_toArray, List.set_cons_zero, List.set_cons_succ]
  refine nany_take 8 41 (.bool false) rfl rfl (by kernel_rfl) (by kernel_rfl) (by kernel_rfl) (fun _ _ _ h => h) (Or.inl ⟨by rfl, ?_⟩) hS2 ?_
  · rintro w' hS'
    go_simp
  simp only [List.setIfInBounds_toArray, List.set_cons_zero, List.set_cons_succ]
  refine nany_take 9 42 (.bool false) rfl rfl (by kernel_rfl) (by kernel_rfl) (by kernel_rfl) (fun _ _ _ h => h) (Or.inl ⟨by rfl, ?_⟩) hS2 ?_
  · rintro w' hS'
    go_simp
  simp only [List.setIfInBounds_toArray, List.set_cons_zero, List.set_cons_succ]
  refine nany_skip 10 43 rfl rfl (by kernel_rfl) (by kernel_rfl) (by kernel_rfl) (fun _ _ _ h => h) (by rfl) hS2 ?_
  simp only [List.setIfInBounds_toArray, List.set_cons_zero, List.set_cons_succ]
  refine nany_skip 11 44 rfl rfl (by kernel_rfl) (by kernel_rfl) (by kernel_rfl) (fun _ _ _ h => h) (by rfl) hS2 ?_
  simp only [List.setIfInBounds_toArray, List.set_cons_zero, List.set_cons_succ]
  refine nany_take 12 45 (.bool false) rfl rfl (by kernel_rfl) (by kernel_rfl) (by kernel_rfl) (fun _ _ _ h => h) (Or.inl ⟨by rfl, ?_⟩) hS2 ?_
  · rintro w' hS'
    go_simp
  simp only [List.setIfInBounds_toArray, List.set_cons_zero, List.set_cons_succ]
  refine nany_take 13 46 (.bool false) rfl rfl (by kernel_rfl) (by kernel_rfl) (by kernel_rfl) (fun _ _ _ h => h) (Or.inl ⟨by rfl, ?_⟩) hS2 ?_
  · rintro w' hS'
    go_simp
  simp only [List.setIfInBounds_toArray, List.set_cons_zero, List.set_cons_succ]
  refine wpAnyH_done (by kernel_rfl) ?_ _
  have HBX := hid (HBV.out.trans (bV.mono HBV.out.size))
  have hq2 := (HBX.out.block q (Array.getElem?_eq_some_iff.1 HQ.out).1).trans HQ.out
  have cIP := cell_of hq2 (i := 6) (v := .int .u32 ip) rfl
  clear bV hyE hcE hS2 hS hq2
  go_wp2_with fail
  refine (HRB14.out _ HBX.out).mono ?_
  rintro e wz ⟨rfl, hwz⟩
  obtain rfl : V2 = wz := hwz.symm
  go_wp2_with fail
  refine (HRB24.out _ HBX.out).mono ?_
  rintro e wz ⟨rfl, hwz⟩
  obtain rfl : V2 = wz := hwz.symm
  go_wp2_with fail
  refine (HMC.out _ HBX.out).mono ?_
  rintro e w5 ⟨rfl, hb5⟩
  obtain ⟨g12, hg12⟩ : ∃ g, w5.heap.size = g := ⟨_, rfl⟩
  obtain ⟨V6, hV6, hv6, W7, hW7, h7, hb7⟩ := box6 w5 mS
  have hB5 := HBX.out.trans (hb5.mono HBX.out.size)
  have hB7 := hB5.trans (hb7.mono hB5.size)
  have hgw : w.heap.size ≤ g12 := by rw [← hg12]; exact hB5.size
  rw [hg12] at hv6 hW7 h7
  have HLN := hid (rLearn_any W7 q T own ip L iS mS (HRP.out.later hB7) (fun b hb => Nat.lt_of_lt_of_le (HT.out b hb) hB7.size) HIS.out HMS.out)
  have HV6 := hid hV6
  have HVv6 := hid hv6
  have HW7 := hid hW7
  have H7 := hid h7
  have HB7 := hid hB7
  have HGW := hid hgw
  clear hb5 hV6 hv6 hW7 h7 hb7 hB5 hB7 hgw cIP
  go_wp2_with (first
    | (rw [← HV6.out]; clear HV6; refine wpList_store_row rfl 23 _ _ rfl g12 (macC mS) rfl rfl 23 _ HVv6.out size6 rfl (macC_one _) ?_; rw [← HW7.out]; clear HW7)
    | (refine wpList_load_row rfl 23 _ rfl g12 rfl 23 _ (0, 0) _ H7.out Try.underlying23 rfl size6 ?_))
  refine HLN.out.mono ?_
  rintro e w8 ⟨rfl, T8, hrp8, hk8, ht8⟩
  have h8m := (hk8.block (Array.getElem?_eq_some_iff.1 H7.out).1 (fun e => by have := HT.out g12 e; have := HGW.out; omega)).trans H7.out
  have H8m := hid h8m
  have HRP8 := hid hrp8
  have HK8 := hid ((Kp.below HB7.out).trans hk8)
  have HT8 := hid ht8
  obtain ⟨_, vl8, hQ8, hrr8⟩ := hrp8
  have HQ8 := hid hQ8
  clear hQ8 hrr8 hk8 ht8 h8m
  go_upto_region 17 with fail
  refine wp_region_held_drew (S := fun W => W.heap[q]? = some (.cells (rpC own ip vl8) 47 (0, 0)) ∧ W.heap[g12]? = some (.cells (macC mS) 23 (0, 0))) (by kernel_rfl) ⟨HQ8.out, H8m.out⟩ (fun hS => ?_)
  refine nany_take 0 75 (.agg (macC mS)) rfl rfl (by kernel_rfl) (by kernel_rfl) (by kernel_rfl) (fun _ _ _ h => h) (Or.inl ⟨by rfl, ?_⟩) hS ?_
  · rintro w' hS'
    exact ex_mid 23 _ rfl g12 0 rfl [.int .u8 mS.a, .int .u8 mS.b, .int .u8 mS.c, .int .u8 mS.d, .int .u8 mS.e, .int .u8 mS.f] (rng hS'.2 0 _ (range6 rfl rfl rfl rfl rfl rfl)) _ Try.underlying23 rfl size6
  simp only [List.setIfInBounds_toArray, List.set_cons_zero, List.set_cons_succ]
  refine nany_take 1 76 (.pointer (some ⟨q, 0, none⟩)) rfl rfl (by kernel_rfl) (by kernel_rfl) (by kernel_rfl) (fun _ _ _ h => h) (Or.inl ⟨by rfl, ?_⟩) hS ?_
  · rintro w' hS'
    go_simp
  simp only [List.setIfInBounds_toArray, List.set_cons_zero, List.set_cons_succ]
  refine nany_take 2 77 (.pointer (some ⟨q, 0, none⟩)) rfl rfl (by kernel_rfl) (by kernel_rfl) (by kernel_rfl) (fun _ _ _ h => h) (Or.inl ⟨by rfl, ?_⟩) hS ?_
  · rintro w' hS'
    go_simp
  simp only [List.setIfInBounds_toArray, List.set_cons_zero, List.set_cons_succ]
  refine nany_take 3 78 (.pointer (some ⟨q, 0, none⟩)) rfl rfl (by kernel_rfl) (by kernel_rfl) (by kernel_rfl) (fun _ _ _ h => h) (Or.inl ⟨by rfl, ?_⟩) hS ?_
  · rintro w' hS'
    go_simp
  simp only [List.setIfInBounds_toArray, List.set_cons_zero, List.set_cons_succ]
  refine nany_take 4 79 (.agg (macC own)) rfl rfl (by kernel_rfl) (by kernel_rfl) (by kernel_rfl) (fun _ _ _ h => h) (Or.inl ⟨by rfl, ?_⟩) hS ?_
  · rintro w' hS'
    exact ex_mid 23 _ rfl q 0 rfl [.int .u8 own.a, .int .u8 own.b, .int .u8 own.c, .int .u8 own.d, .int .u8 own.e, .int .u8 own.f] (rng hS'.1 0 _ (range6 rfl rfl rfl rfl rfl rfl)) _ Try.underlying23 rfl size6
  simp only [List.setIfInBounds_toArray, List.set_cons_zero, List.set_cons_succ]
  refine nany_take 5 80 (.pointer (some ⟨q, 0, none⟩)) rfl rfl (by kernel_rfl) (by kernel_rfl) (by kernel_rfl) (fun _ _ _ h => h) (Or.inl ⟨by rfl, ?_⟩) hS ?_
  · rintro w' hS'
    go_simp
  simp only [List.setIfInBounds_toArray, List.set_cons_zero, List.set_cons_succ]
  refine nany_take 6 81 (.pointer (some ⟨q, 0, none⟩)) rfl rfl (by kernel_rfl) (by kernel_rfl) (by kernel_rfl) (fun _ _ _ h => h) (Or.inl ⟨by rfl, ?_⟩) hS ?_
  · rintro w' hS'
    go_simp
  simp only [List.setIfInBounds_toArray, List.set_cons_zero, List.set_cons_succ]
  refine nany_take 7 82 (.pointer (some ⟨q, 0, none⟩)) rfl rfl (by kernel_rfl) (by kernel_rfl) (by kernel_rfl) (fun _ _ _ h => h) (Or.inl ⟨by rfl, ?_⟩) hS ?_
  · rintro w' hS'
    go_simp
  simp only [List.setIfInBounds_toArray, List.set_cons_zero, List.set_cons_succ]
  refine nany_take 8 83 (.agg (macC own)) rfl rfl (by kernel_rfl) (by kernel_rfl) (by kernel_rfl) (fun _ _ _ h => h) (Or.inl ⟨by rfl, ?_⟩) hS ?_
  · rintro w' hS'
    exact ex_mid 23 _ rfl q 0 rfl [.int .u8 own.a, .int .u8 own.b, .int .u8 own.c, .int .u8 own.d, .int .u8 own.e, .int .u8 own.f] (rng hS'.1 0 _ (range6 rfl rfl rfl rfl rfl rfl)) _ Try.underlying23 rfl size6
  simp only [List.setIfInBounds_toArray, List.set_cons_zero, List.set_cons_succ]
  refine nany_take 9 84 (.pointer (some ⟨q, 0, none⟩)) rfl rfl (by kernel_rfl) (by kernel_rfl) (by kernel_rfl) (fun _ _ _ h => h) (Or.inl ⟨by rfl, ?_⟩) hS ?_
  · rintro w' hS'
    go_simp
  simp only [List.setIfInBounds_toArray, List.set_cons_zero, List.set_cons_succ]
  refine nany_take 10 85 (.pointer (some ⟨q, 0, none⟩)) rfl rfl (by kernel_rfl) (by kernel_rfl) (by kernel_rfl) (fun _ _ _ h => h) (Or.inl ⟨by rfl, ?_⟩) hS ?_
  · rintro w' hS'
    go_simp
  simp only [List.setIfInBounds_toArray, List.set_cons_zero, List.set_cons_succ]
  refine nany_take 11 86 (.pointer (some ⟨q, 6, none⟩)) rfl rfl (by kernel_rfl) (by kernel_rfl) (by kernel_rfl) (fun _ _ _ h => h) (Or.inl ⟨by rfl, ?_⟩) hS ?_
  · rintro w' hS'
    go_simp
  simp only [List.setIfInBounds_toArray, List.set_cons_zero, List.set_cons_succ]
  refine nany_take 12 87 (.int .u32 ip) rfl rfl (by kernel_rfl) (by kernel_rfl) (by kernel_rfl) (fun _ _ _ h => h) (Or.inl ⟨by rfl, ?_⟩) hS ?_
  · rintro w' hS'
    have hc := cell_of hS'.1 (i := 6) (v := .int .u32 ip) rfl; go_simp
  simp only [List.setIfInBounds_toArray, List.set_cons_zero, List.set_cons_succ]
  refine nany_take 13 88 (.agg (macC mS)) rfl rfl (by kernel_rfl) (by kernel_rfl) (by kernel_rfl) (fun _ _ _ h => h) (Or.inl ⟨by rfl, ?_⟩) hS ?_
  · rintro w' hS'
    exact ex_mid 23 _ rfl g12 0 rfl [.int .u8 mS.a, .int .u8 mS.b, .int .u8 mS.c, .int .u8 mS.d, .int .u8 mS.e, .int .u8 mS.f] (rng hS'.2 0 _ (range6 rfl rfl rfl rfl rfl rfl)) _ Try.underlying23 rfl size6
  simp only [List.setIfInBounds_toArray, List.set_cons_zero, List.set_cons_succ]
  refine nany_take 14 89 (.int .u64 iS) rfl rfl (by kernel_rfl) (by kernel_rfl) (by kernel_rfl) (fun _ _ _ h => h) (Or.inl ⟨by rfl, ?_⟩) hS ?_
  · rintro w' hS'
    go_simp
  simp only [List.setIfInBounds_toArray, List.set_cons_zero, List.set_cons_succ]
  refine nany_take 15 90 (.int .u32 iS) rfl rfl (by kernel_rfl) (by kernel_rfl) (by kernel_rfl) (fun _ _ _ h => h) (Or.inl ⟨by rfl, ?_⟩) hS ?_
  · rintro w' hS'
    go_simp
  simp only [List.setIfInBounds_toArray, List.set_cons_zero, List.set_cons_succ]
  refine nany_one 16 (by kernel_rfl) ?_
  refine nop_callE 91 (f := 36) (args := #[.int .i64 2, .agg (macC own), .int .u32 ip, .agg (macC mS), .int .u32 iS]) (R := fun v w' => ∃ a9 c9, v = .slice a9 28 c9 ∧ By w' (New w8) a9 (arpL 2 own ip mS iS) ∧ Below w8.heap.size w8 w') rfl (by rfl) rfl (by go_simp) ((arp_any w8.drew 2 own ip mS iS (by omega) HOW.out HIP.out HMS.out HIS.out).mono (fun e w' h => by obtain ⟨a2, c2, h1, h2, h3, h4⟩ := h; exact ⟨_, h1, a2, c2, rfl, h2, below_undrew h4⟩)) ?_
  rintro v w9 ⟨a9, c9, rfl, hy9, hb9⟩
  have hS9 := (show _ ∧ _ from ⟨(hb9.block q (Array.getElem?_eq_some_iff.1 hS.1).1).trans hS.1, (hb9.block g12 (Array.getElem?_eq_some_iff.1 hS.2).1).trans hS.2⟩)
  refine ⟨hS9, ?_⟩
  simp only [List.setIfInBounds_toArray, List.set_cons_zero, List.set_cons_succ]
  refine nany_take 17 92 (.agg (frC mS own 2054 (.slice a9 28 c9))) rfl rfl (by kernel_rfl) (by kernel_rfl) (by kernel_rfl) (fun _ _ _ h => h) (Or.inl ⟨by rfl, ?_⟩) hS9 ?_
  · rintro w' hS'
    go_simp
  simp only [List.setIfInBounds_toArray, List.set_cons_zero, List.set_cons_succ]
  refine nany_one 18 (by kernel_rfl) ?_
  refine nop_callE 93 (f := 11) (args := #[.agg (frC mS own 2054 (.slice a9 28 c9))]) (R := fun v w' => ∃ a10 c10, v = .tuple #[.slice a10 42 c10, .int .i64 0] ∧ By w' (New w9) a10 (frL mS own 2054 (arpL 2 own ip mS iS)) ∧ 42 ≤ c10 ∧ Below w9.heap.size w9 w') rfl (by rfl) rfl (by go_simp) ((rWrite_ok w9 mS own 2054 a9 28 c9 (arpL 2 own ip mS iS) HMS.out HOW.out (by omega) (arpL_len _ _ _ _ _) (by omega) hy9.bytes).mono (fun e w' h => by obtain ⟨a2, c2, h1, h2, h3, h4⟩ := h; exact ⟨_, h1, a2, c2, rfl, h2, h3, h4⟩)) ?_
  rintro v w10 ⟨a10, c10, rfl, hy10, hc10, hb10⟩
  have hS10 := (show _ ∧ _ from ⟨(hb10.block q (Array.getElem?_eq_some_iff.1 hS9.1).1).trans hS9.1, (hb10.block g12 (Array.getElem?_eq_some_iff.1 hS9.2).1).trans hS9.2⟩)
  refine ⟨hS10, ?_⟩
  simp only [List.setIfInBounds_toArray, List.set_cons_zero, List.set_cons_succ]
  refine nany_take 19 74 (.tuple #[.slice a10 42 c10, .int .i64 0]) rfl rfl (by kernel_rfl) (by kernel_rfl) (by kernel_rfl) (fun _ _ _ h => h) (Or.inl ⟨by rfl, ?_⟩) hS10 ?_
  · rintro w' hS'
    go_simp
  simp only [List.setIfInBounds_toArray, List.set_cons_zero, List.set_cons_succ]
  refine nany_take 20 94 (.slice a10 42 c10) rfl rfl (by kernel_rfl) (by kernel_rfl) (by kernel_rfl) (fun _ _ _ h => h) (Or.inl ⟨by rfl, ?_⟩) hS10 ?_
  · rintro w' hS'
    go_simp
  simp only [List.setIfInBounds_toArray, List.set_cons_zero, List.set_cons_succ]
  refine nany_take 21 95 (.int .i64 0) rfl rfl (by kernel_rfl) (by kernel_rfl) (by kernel_rfl) (fun _ _ _ h => h) (Or.inl ⟨by rfl, ?_⟩) hS10 ?_
  · rintro w' hS'
    go_simp
  simp only [List.setIfInBounds_toArray, List.set_cons_zero, List.set_cons_succ]
  refine nany_take 22 13 (.slice a10 42 c10) rfl rfl (by kernel_rfl) (by kernel_rfl) (by kernel_rfl) (fun _ _ _ h => h) (Or.inl ⟨by rfl, ?_⟩) hS10 ?_
  · rintro w' hS'
    go_simp
  simp only [List.setIfInBounds_toArray, List.set_cons_zero, List.set_cons_succ]
  refine nany_take 23 14 (.int .i64 0) rfl rfl (by kernel_rfl) (by kernel_rfl) (by kernel_rfl) (fun _ _ _ h => h) (Or.inl ⟨by rfl, ?_⟩) hS10 ?_
  · rintro w' hS'
    go_simp
  simp only [List.setIfInBounds_toArray, List.set_cons_zero, List.set_cons_succ]
  refine wpAnyH_done (by kernel_rfl) ?_ _
  have HY10 := hid hy10
  have hb810 := hb9.trans (hb10.mono hb9.size)
  have HB810 := hid hb810
  have HS9 := hid hb9.size
  clear hy10 hc10 hb10 hb9 hb810 hy9 hS hS9 hS10
  go_wp2
  go_ret2
  have hk := HK8.out.trans (Kp.below HB810.out)
  refine ⟨a10, c10, by rw [frL_len, arpL_len]; rfl, HY10.out.weak (fun x hx _ => Nat.le_trans (Nat.le_trans HK8.out.2.size HS9.out) hx), T8, HRP8.out.later HB810.out, hk, fun b hb => Nat.lt_of_lt_of_le (HT8.out b hb) HB810.out.size⟩
theorem rHear_any (w : World) (q : Nat) (T : Nat → Prop) (own : Mac) (ip : Int) (L : List Pe) (m1 m2 : Mac) (k : Int) (a : Option Addr) (n c : Nat) (l : List Int) (h : RPeAt w q T own ip L) (hT : ∀ b, T b → b < w.heap.size) (hl : l.length = n) (hn2 : n ≤ 1000000) (hnc : n ≤ c) (hb : Bytes w a l) :
    Calls Try.prog 18 #[.pointer (some ⟨q, 0, none⟩), .agg (frC m1 m2 k (.slice a n c))] w (RHearPost q T own ip (hearS ip k l L) (hearB own ip k l) (hearC ip k l) w) := by
  have hno : ∀ E, hearC ip k l = E → E ≠ 0 → ∀ e w', HearNo w E e w' → RHearPost q T own ip (hearS ip k l L) (hearB own ip k l) (hearC ip k l) w e w' := fun E he h0 e w' hw => by
    obtain ⟨rfl, hb⟩ := hw
    obtain ⟨e1, e2⟩ := hear_no (own := own) L (show hearC ip k l ≠ 0 by rw [he]; exact h0)
    rw [e1, e2, he]
    exact ⟨none, 0, rfl, By.nil _ _ _, T, h.later hb, Kp.below hb, fun b hb2 => Nat.lt_of_lt_of_le (hT b hb2) hb.size⟩
  by_cases hk : k = 2054
  case neg => exact (rHear_kind w q m1 m2 k a n c hk).mono (hno 3 (hearC_kind hk) (by decide))
  subst hk
  by_cases hlen : l.length < 28
  · exact (rHear_cut w q m1 m2 a n c (by omega)).mono (hno 11 (hearC_cut hlen) (by decide))
  by_cases hhd : macOf l = headM
  case neg => exact (rHear_badA w q m1 m2 a n c l hl (by omega) hnc hb hhd).mono (hno 15 (hearC_bad hlen (.inl hhd)) (by decide))
  by_cases hop : opOf l ≠ 1 ∧ opOf l ≠ 2
  · exact (rHear_badD w q m1 m2 a n c l hl (by omega) hnc hb hhd hop).mono (hno 15 (hearC_bad hlen (.inr hop)) (by decide))
  have hbad : ¬ badM l := fun e => by
    rcases e with e | e
    · exact e hhd
    · exact hop e
  have hop2 : opOf l = 1 ∨ opOf l = 2 := by
    rcases Classical.em (opOf l = 1) with h | h
    · exact .inl h
    · rcases Classical.em (opOf l = 2) with h' | h'
      · exact .inr h'
      · exact absurd ⟨h, h'⟩ hop
  by_cases hfar : ipAt l 24 = ip
  case neg =>
    rcases hop2 with ho | ho
    · exact (rHear_far1 w q T own ip L m1 m2 a n c l h hl (by omega) hn2 hnc hb hhd ho hfar).mono (hno 18 (hearC_far hlen hbad hfar) (by decide))
    · exact (rHear_far2 w q T own ip L m1 m2 a n c l h hl (by omega) hn2 hnc hb hhd ho hfar).mono (hno 18 (hearC_far hlen hbad hfar) (by decide))
  have h0 := hearC_ok hlen hbad hfar
  have eS : hearS ip 2054 l L = learnL L (ipAt l 14) (macOf (l.drop 8)) := by unfold hearS; rw [if_pos h0]
  rcases hop2 with ho | ho
  · have eB : hearB own ip 2054 l = frL (macOf (l.drop 8)) own 2054 (arpL 2 own ip (macOf (l.drop 8)) (ipAt l 14)) := by unfold hearB; rw [if_pos ⟨h0, ho⟩]
    rw [eS, eB, h0]
    exact rHear_one w q T own ip L m1 m2 a n c l h hT hl (by omega) hn2 hnc hb hhd ho hfar
  · have eB : hearB own ip 2054 l = [] := by unfold hearB; rw [if_neg (fun e => by rw [ho] at e; exact absurd e.2 (by decide))]
    rw [eS, eB, h0]
    exact rHear_two w q T own ip L m1 m2 a n c l h hT hl (by omega) hn2 hnc hb hhd ho hfar
end Go.Proofs.Ytlflbpemjlgdiaa
