/- The document's Hear: what is refused. -/
import Derived.Test.YtlflbpemjlgdiaaEjE
namespace Go.Proofs.Ytlflbpemjlgdiaa
open Go.RowKit Go.Maps
set_option linter.unusedVariables false

theorem op_at (l : List Int) (h : 8 ≤ l.length) : opOf l = 256 * l.getD 6 0 + l.getD 7 0 := by
  have e : (l.drop 6).take 2 = [l.getD 6 0, l.getD 7 0] := by
    apply List.ext_getElem?
    intro i
    rw [List.getElem?_take, List.getElem?_drop]
    rcases (show i = 0 ∨ i = 1 ∨ 2 ≤ i by omega) with rfl | rfl | h2
    · simp [List.getD, show 6 < l.length by omega]
    · simp [List.getD, show 7 < l.length by omega]
    · rw [if_neg (by omega), List.getElem?_eq_none (by simp; omega)]
  unfold opOf
  rw [e]
  simp only [beOf, beOn]
  omega
theorem head_iff (l : List Int) (h : 6 ≤ l.length) : macOf l = headM ↔ l.take 6 = headM.l := by
  rw [← macOf_l l h]
  exact ⟨fun e => by rw [e], fun e => Mac.ext_l e⟩
set_option maxRecDepth 100000 in
set_option maxHeartbeats 1000000 in
theorem rHear_kind (w : World) (q : Nat) (m1 m2 : Mac) (k : Int) (a : Option Addr) (n c : Nat) (hk : k ≠ 2054) :
    Calls Try.prog 18 #[.pointer (some ⟨q, 0, none⟩), .agg (frC m1 m2 k (.slice a n c))] w (HearNo w 3) := by
  obtain ⟨g3, hg3⟩ : ∃ g, w.heap.size = g := ⟨_, rfl⟩
  obtain ⟨W1, hW1⟩ : ∃ W, W = w.alloc (.cells (frC m1 m2 k (.slice a n c)) 30) := ⟨_, rfl⟩
  have b1 : Below w.heap.size w W1 := by rw [hW1]; exact below_alloc (Below.refl _ _) (Nat.le_refl _) _
  have h13 : W1.heap[g3]? = some (.cells (frC m1 m2 k (.slice a n c)) 30 (0, 0)) := by rw [hW1, ← hg3]; exact alloc_new w _
  have hck : W1.cell? ⟨g3, 12, none⟩ = some (.int .i64 k) := cell_of h13 rfl
  have hcb : W1.cell? ⟨g3, 13, none⟩ = some (.slice a n c) := cell_of h13 rfl
  have HB1 := hid b1
  have HW := hW1.symm
  have hk' : (k != 2054) = true := by simpa using hk
  clear hW1 b1 h13 hk
  go_enter Try.func18, Try.ntmps18
  go_wp2
  go_ret2
  exact ⟨rfl, HB1.out⟩
set_option maxRecDepth 100000 in
set_option maxHeartbeats 1000000 in
theorem rHear_cut (w : World) (q : Nat) (m1 m2 : Mac) (a : Option Addr) (n c : Nat) (hn : n < 28) :
    Calls Try.prog 18 #[.pointer (some ⟨q, 0, none⟩), .agg (frC m1 m2 2054 (.slice a n c))] w (HearNo w 11) := by
  obtain ⟨k, hk⟩ : ∃ k : Int, k = 2054 := ⟨_, rfl⟩
  rw [← hk]
  obtain ⟨g3, hg3⟩ : ∃ g, w.heap.size = g := ⟨_, rfl⟩
  obtain ⟨W1, hW1⟩ : ∃ W, W = w.alloc (.cells (frC m1 m2 k (.slice a n c)) 30) := ⟨_, rfl⟩
  have b1 : Below w.heap.size w W1 := by rw [hW1]; exact below_alloc (Below.refl _ _) (Nat.le_refl _) _
  have h13 : W1.heap[g3]? = some (.cells (frC m1 m2 k (.slice a n c)) 30 (0, 0)) := by rw [hW1, ← hg3]; exact alloc_new w _
  have hck : W1.cell? ⟨g3, 12, none⟩ = some (.int .i64 k) := cell_of h13 rfl
  have hcb : W1.cell? ⟨g3, 13, none⟩ = some (.slice a n c) := cell_of h13 rfl
  have HB1 := hid b1
  have HW := hW1.symm
  subst hk
  have hni : (n : Int) < 28 := by omega
  clear hW1 b1 h13
  go_enter Try.func18, Try.ntmps18
  go_wp2
  go_ret2
  exact ⟨rfl, HB1.out⟩
set_option maxRecDepth 100000 in
set_option maxHeartbeats 2000000 in
theorem rHear_badA (w : World) (q : Nat) (m1 m2 : Mac) (a : Option Addr) (n c : Nat) (l : List Int) (hl : l.length = n) (h28 : 28 ≤ n) (hnc : n ≤ c) (hb : Bytes w a l) (hbad : macOf l ≠ headM) :
    Calls Try.prog 18 #[.pointer (some ⟨q, 0, none⟩), .agg (frC m1 m2 2054 (.slice a n c))] w (HearNo w 15) := by
  obtain ⟨k, hk⟩ : ∃ k : Int, k = 2054 := ⟨_, rfl⟩
  rw [← hk]
  obtain ⟨g3, hg3⟩ : ∃ g, w.heap.size = g := ⟨_, rfl⟩
  obtain ⟨W1, hW1⟩ : ∃ W, W = w.alloc (.cells (frC m1 m2 k (.slice a n c)) 30) := ⟨_, rfl⟩
  have b1 : Below w.heap.size w W1 := by rw [hW1]; exact below_alloc (Below.refl _ _) (Nat.le_refl _) _
  have h13 : W1.heap[g3]? = some (.cells (frC m1 m2 k (.slice a n c)) 30 (0, 0)) := by rw [hW1, ← hg3]; exact alloc_new w _
  have hck : W1.cell? ⟨g3, 12, none⟩ = some (.int .i64 k) := cell_of h13 rfl
  have hcb : W1.cell? ⟨g3, 13, none⟩ = some (.slice a n c) := cell_of h13 rfl
  have HB1 := hid b1
  have HW := hW1.symm
  subst hk
  have hk7 := op_at l (by rw [hl]; omega)
  obtain ⟨b, off, rfl, hcell⟩ := hb.open_ (by rw [hl]; omega)
  have q6 := cell_later b1 (hcell 6 (by rw [hl]; omega))
  have q7 := cell_later b1 (hcell 7 (by rw [hl]; omega))
  have hI6 := mem_getD l IsB hb.isB 6 (by rw [hl]; omega)
  have hI7 := mem_getD l IsB hb.isB 7 (by rw [hl]; omega)
  generalize l.getD 6 0 = x6 at *
  generalize l.getD 7 0 = x7 at *
  unfold IsB at hI6 hI7
  have HOP := hid hk7
  obtain ⟨op, hop⟩ : ∃ op, opOf l = op := ⟨_, rfl⟩
  rw [hop] at hk7
  have hw1 : IntKind.i64.wrap (256 * x6) = 256 * x6 := IntWalk.i64_in _ (by omega)
  have hw2 : IntKind.i64.wrap (256 * x6 + x7) = op := by rw [IntWalk.i64_in _ (by omega)]; exact hk7.symm
  have hw3 : IntKind.i64.wrap x6 = x6 := IntWalk.i64_in _ (by omega)
  have hw4 : IntKind.i64.wrap x7 = x7 := IntWalk.i64_in _ (by omega)
  have hi28 : ¬ ((n : Int) < 28) := by omega
  have hi6 : ¬ ((n : Int) ≤ 6) := by omega
  have hi7 : ¬ ((n : Int) ≤ 7) := by omega
  have hcut := cutH_run (some ⟨b, off, none⟩) n c 6 (by omega)
  have hcut' : ∀ W : World, (Instr.slice 22 (.slice (some ⟨b, off, none⟩) n c) none (some (.int .i64 6)) none).run Try.prog W = .ok (.slice (some ⟨b, off, none⟩) 6 c) W := hcut
  obtain ⟨s1, hs1⟩ : ∃ s, strOfNums (l.take 6) = s := ⟨_, rfl⟩
  obtain ⟨s2, hs2⟩ : ∃ s, strOfNums headM.l = s := ⟨_, rfl⟩
  have HC1 : Hid (∀ W : World, Bytes W (some ⟨b, off, none⟩) l → (convert 22 9 (.slice (some ⟨b, off, none⟩) 6 c)).run Try.prog W = .ok (.string s1) W) := hid (fun W h => by rw [← hs1]; exact conv0 (h.take 6) (by rw [List.length_take, hl]; omega))
  have HS2 := hid hs2
  have hse := str_eq (l := l.take 6) (m := headM.l) (fun y hy => hb.isB y (List.mem_of_mem_take hy)) headM_ok
  rw [hs1, hs2] at hse
  have HBY := hid hb
  have HL := hid hl
  have HSE : Hid ((s1.toList == s2.toList) = false) := hid (by rw [hse]; exact decide_eq_false (fun e => hbad ((head_iff l (by omega)).2 e)))
  skip
  clear hW1 b1 h13 hb hcell hcut hs1 hs2 hse hk7 hop
  go_enter Try.func18, Try.ntmps18
  go_upto_region 6 with fail
  go_quiet (fail)
  obtain ⟨V, hV⟩ : ∃ V, V = W1.drewN nq := ⟨_, rfl⟩
  have HBV : Hid (Below w.heap.size w V) := hid (by rw [hV]; exact below_drewN HB1.out _)
  have HYV := hid (HBY.out.later HBV.out)
  rw [← hV]
  clear hV
  go_upto_region 7 with fail
  refine wp_region_held_drew (S := fun W => Bytes W (some ⟨b, off, none⟩) l) (by kernel_rfl) HYV.out (fun hS => ?_)
  refine nany_take 0 33 (.slice (some ⟨b, off, none⟩) n c) rfl rfl (by kernel_rfl) (by kernel_rfl) (by kernel_rfl) (fun _ _ _ h => h) (Or.inl ⟨by rfl, ?_⟩) hS ?_
  · rintro w' hS'
    go_simp
  simp only [List.setIfInBounds_toArray, List.set_cons_zero, List.set_cons_succ]
  refine nany_take 1 34 (.slice (some ⟨b, off, none⟩) 6 c) rfl rfl (by kernel_rfl) (by kernel_rfl) (by kernel_rfl) (fun _ _ _ h => h) (Or.inl ⟨by rfl, ?_⟩) hS ?_
  · rintro w' hS'
    go_simp
  simp only [List.setIfInBounds_toArray, List.set_cons_zero, List.set_cons_succ]
  refine nany_take 2 35 (.string s1) rfl rfl (by kernel_rfl) (by kernel_rfl) (by kernel_rfl) (fun _ _ _ h => h) (Or.inl ⟨by rfl, ?_⟩) hS ?_
  · rintro w' hS'
    have hc := HC1.out w' hS'; go_simp
  simp only [List.setIfInBounds_toArray, List.set_cons_zero, List.set_cons_succ]
  obtain ⟨gE, hgE⟩ : ∃ g, V.heap.size = g := ⟨_, rfl⟩
  obtain ⟨V2, hV2⟩ : ∃ W, W = V.drew.alloc (.cells #[.int .u8 0, .int .u8 1, .int .u8 8, .int .u8 0, .int .u8 6, .int .u8 4] 5) := ⟨_, rfl⟩
  have bV : Below V.heap.size V V2 := by rw [hV2]; exact ((Below.refl _ _).drew).alloc (Nat.le_refl _) _
  have hyE : Bytes V2 (some ⟨gE, 0, none⟩) headM.l := by rw [hV2, ← hgE]; exact (by_const V.drew headM.l (0, 0) headM_ok).bytes
  have hcE := conv0 (cap := 6) hyE (show headM.l.length = 6 from rfl)
  rw [HS2.out] at hcE
  have hS2 := HYV.out.later bV
  refine nany_one 3 (by kernel_rfl) ?_
  refine nop_value' 36 (v := .slice (some ⟨gE, 0, none⟩) 6 6) (w' := V2) rfl (by rfl) rfl (by rw [hV2, ← hgE]; go_simp) ?_
  clear hV2 hgE
  refine ⟨hS2, ?_⟩
  simp only [List.setIfInBounds_toArray, List.set_cons_zero, List.set_cons_succ]
  refine nany_one 4 (by kernel_rfl) ?_
  refine nop_value' 37 (v := .string s2) (w' := V2) rfl (by rfl) rfl (by go_simp) ?_
  refine ⟨hS2, ?_⟩
  simp only [List.setIfInBounds_toArray, List.set_cons_zero, List.set_cons_succ]
  refine nany_take 5 38 (.bool true) rfl rfl (by kernel_rfl) (by kernel_rfl) (by kernel_rfl) (fun _ _ _ h => h) (Or.inl ⟨by rfl, ?_⟩) hS2 ?_
  · rintro w' hS'
    have hz := HSE.out; simp [execOp, Act.eval, go_sem, hz]
  simp only [List.setIfInBounds_toArray, List.set_cons_zero, List.set_cons_succ]
  refine nany_take 6 39 (.bool true) rfl rfl (by kernel_rfl) (by kernel_rfl) (by kernel_rfl) (fun _ _ _ h => h) (Or.inl ⟨by rfl, ?_⟩) hS2 ?_
  · rintro w' hS'
    go_simp
  simp only [List.setIfInBounds_toArray, List.set_cons_zero, List.set_cons_succ]
  refine nany_skip 7 40 rfl rfl (by kernel_rfl) (by kernel_rfl) (by kernel_rfl) (fun _ _ _ h => h) (by rfl) hS2 ?_
  simp only [List.setIfInBounds_toArray, List.set_cons_zero, List.set_cons_succ]
  refine nany_skip 8 41 rfl rfl (by kernel_rfl) (by kernel_rfl) (by kernel_rfl) (fun _ _ _ h => h) (by rfl) hS2 ?_
  simp only [List.setIfInBounds_toArray, List.set_cons_zero, List.set_cons_succ]
  refine nany_skip 9 42 rfl rfl (by kernel_rfl) (by kernel_rfl) (by kernel_rfl) (fun _ _ _ h => h) (by rfl) hS2 ?_
  simp only [List.setIfInBounds_toArray, List.set_cons_zero, List.set_cons_succ]
  refine nany_skip 10 43 rfl rfl (by kernel_rfl) (by kernel_rfl) (by kernel_rfl) (fun _ _ _ h => h) (by rfl) hS2 ?_
  simp only [List.setIfInBounds_toArray, List.set_cons_zero, List.set_cons_succ]
  refine nany_skip 11 44 rfl rfl (by kernel_rfl) (by kernel_rfl) (by kernel_rfl) (fun _ _ _ h => h) (by rfl) hS2 ?_
  simp only [List.setIfInBounds_toArray, List.set_cons_zero, List.set_cons_succ]
  refine nany_skip 12 45 rfl rfl (by kernel_rfl) (by kernel_rfl) (by kernel_rfl) (fun _ _ _ h => h) (by rfl) hS2 ?_
  simp only [List.setIfInBounds_toArray, List.set_cons_zero, List.set_cons_succ]
  refine nany_take 13 46 (.bool true) rfl rfl (by kernel_rfl) (by kernel_rfl) (by kernel_rfl) (fun _ _ _ h => h) (Or.inl ⟨by rfl, ?_⟩) hS2 ?_
  · rintro w' hS'
    go_simp
  simp only [List.setIfInBounds_toArray, List.set_cons_zero, List.set_cons_succ]
  refine wpAnyH_done (by kernel_rfl) ?_ _
  have HBX := hid (HBV.out.trans (bV.mono HBV.out.size))
  clear bV hyE hcE hS2 hS
  go_wp2
  go_ret2
  exact ⟨rfl, HBX.out⟩
set_option maxRecDepth 100000 in
set_option maxHeartbeats 2000000 in
theorem rHear_badD (w : World) (q : Nat) (m1 m2 : Mac) (a : Option Addr) (n c : Nat) (l : List Int) (hl : l.length = n) (h28 : 28 ≤ n) (hnc : n ≤ c) (hb : Bytes w a l) (hhd : macOf l = headM) (hbad : opOf l ≠ 1 ∧ opOf l ≠ 2) :
    Calls Try.prog 18 #[.pointer (some ⟨q, 0, none⟩), .agg (frC m1 m2 2054 (.slice a n c))] w (HearNo w 15) := by
  obtain ⟨k, hk⟩ : ∃ k : Int, k = 2054 := ⟨_, rfl⟩
  rw [← hk]
  obtain ⟨g3, hg3⟩ : ∃ g, w.heap.size = g := ⟨_, rfl⟩
  obtain ⟨W1, hW1⟩ : ∃ W, W = w.alloc (.cells (frC m1 m2 k (.slice a n c)) 30) := ⟨_, rfl⟩
  have b1 : Below w.heap.size w W1 := by rw [hW1]; exact below_alloc (Below.refl _ _) (Nat.le_refl _) _
  have h13 : W1.heap[g3]? = some (.cells (frC m1 m2 k (.slice a n c)) 30 (0, 0)) := by rw [hW1, ← hg3]; exact alloc_new w _
  have hck : W1.cell? ⟨g3, 12, none⟩ = some (.int .i64 k) := cell_of h13 rfl
  have hcb : W1.cell? ⟨g3, 13, none⟩ = some (.slice a n c) := cell_of h13 rfl
  have HB1 := hid b1
  have HW := hW1.symm
  subst hk
  have hk7 := op_at l (by rw [hl]; omega)
  obtain ⟨b, off, rfl, hcell⟩ := hb.open_ (by rw [hl]; omega)
  have q6 := cell_later b1 (hcell 6 (by rw [hl]; omega))
  have q7 := cell_later b1 (hcell 7 (by rw [hl]; omega))
  have hI6 := mem_getD l IsB hb.isB 6 (by rw [hl]; omega)
  have hI7 := mem_getD l IsB hb.isB 7 (by rw [hl]; omega)
  generalize l.getD 6 0 = x6 at *
  generalize l.getD 7 0 = x7 at *
  unfold IsB at hI6 hI7
  have HOP := hid hk7
  obtain ⟨op, hop⟩ : ∃ op, opOf l = op := ⟨_, rfl⟩
  rw [hop] at hk7
  have hw1 : IntKind.i64.wrap (256 * x6) = 256 * x6 := IntWalk.i64_in _ (by omega)
  have hw2 : IntKind.i64.wrap (256 * x6 + x7) = op := by rw [IntWalk.i64_in _ (by omega)]; exact hk7.symm
  have hw3 : IntKind.i64.wrap x6 = x6 := IntWalk.i64_in _ (by omega)
  have hw4 : IntKind.i64.wrap x7 = x7 := IntWalk.i64_in _ (by omega)
  have hi28 : ¬ ((n : Int) < 28) := by omega
  have hi6 : ¬ ((n : Int) ≤ 6) := by omega
  have hi7 : ¬ ((n : Int) ≤ 7) := by omega
  have hcut := cutH_run (some ⟨b, off, none⟩) n c 6 (by omega)
  have hcut' : ∀ W : World, (Instr.slice 22 (.slice (some ⟨b, off, none⟩) n c) none (some (.int .i64 6)) none).run Try.prog W = .ok (.slice (some ⟨b, off, none⟩) 6 c) W := hcut
  obtain ⟨s1, hs1⟩ : ∃ s, strOfNums (l.take 6) = s := ⟨_, rfl⟩
  obtain ⟨s2, hs2⟩ : ∃ s, strOfNums headM.l = s := ⟨_, rfl⟩
  have HC1 : Hid (∀ W : World, Bytes W (some ⟨b, off, none⟩) l → (convert 22 9 (.slice (some ⟨b, off, none⟩) 6 c)).run Try.prog W = .ok (.string s1) W) := hid (fun W h => by rw [← hs1]; exact conv0 (h.take 6) (by rw [List.length_take, hl]; omega))
  have HS2 := hid hs2
  have hse := str_eq (l := l.take 6) (m := headM.l) (fun y hy => hb.isB y (List.mem_of_mem_take hy)) headM_ok
  rw [hs1, hs2] at hse
  have HBY := hid hb
  have HL := hid hl
  have HSE : Hid ((s1.toList == s2.toList) = true) := hid (by rw [hse]; exact decide_eq_true ((head_iff l (by omega)).1 hhd))
  rw [hop] at hbad
  have ho1 : (op != 1) = true := by simpa using hbad.1
  have ho2 : (op != 2) = true := by simpa using hbad.2
  clear hW1 b1 h13 hb hcell hcut hs1 hs2 hse hk7 hop
  go_enter Try.func18, Try.ntmps18
  go_upto_region 6 with fail
  go_quiet (fail)
  obtain ⟨V, hV⟩ : ∃ V, V = W1.drewN nq := ⟨_, rfl⟩
  have HBV : Hid (Below w.heap.size w V) := hid (by rw [hV]; exact below_drewN HB1.out _)
  have HYV := hid (HBY.out.later HBV.out)
  rw [← hV]
  clear hV
  go_upto_region 7 with fail
  refine wp_region_held_drew (S := fun W => Bytes W (some ⟨b, off, none⟩) l) (by kernel_rfl) HYV.out (fun hS => ?_)
  refine nany_take 0 33 (.slice (some ⟨b, off, none⟩) n c) rfl rfl (by kernel_rfl) (by kernel_rfl) (by kernel_rfl) (fun _ _ _ h => h) (Or.inl ⟨by rfl, ?_⟩) hS ?_
  · rintro w' hS'
    go_simp
  simp only [List.setIfInBounds_toArray, List.set_cons_zero, List.set_cons_succ]
  refine nany_take 1 34 (.slice (some ⟨b, off, none⟩) 6 c) rfl rfl (by kernel_rfl) (by kernel_rfl) (by kernel_rfl) (fun _ _ _ h => h) (Or.inl ⟨by rfl, ?_⟩) hS ?_
  · rintro w' hS'
    go_simp
  simp only [List.setIfInBounds_toArray, List.set_cons_zero, List.set_cons_succ]
  refine nany_take 2 35 (.string s1) rfl rfl (by kernel_rfl) (by kernel_rfl) (by kernel_rfl) (fun _ _ _ h => h) (Or.inl ⟨by rfl, ?_⟩) hS ?_
  · rintro w' hS'
    have hc := HC1.out w' hS'; go_simp
  simp only [List.setIfInBounds_toArray, List.set_cons_zero, List.set_cons_succ]
  obtain ⟨gE, hgE⟩ : ∃ g, V.heap.size = g := ⟨_, rfl⟩
  obtain ⟨V2, hV2⟩ : ∃ W, W = V.drew.alloc (.cells #[.int .u8 0, .int .u8 1, .int .u8 8, .int .u8 0, .int .u8 6, .int .u8 4] 5) := ⟨_, rfl⟩
  have bV : Below V.heap.size V V2 := by rw [hV2]; exact ((Below.refl _ _).drew).alloc (Nat.le_refl _) _
  have hyE : Bytes V2 (some ⟨gE, 0, none⟩) headM.l := by rw [hV2, ← hgE]; exact (by_const V.drew headM.l (0, 0) headM_ok).bytes
  have hcE := conv0 (cap := 6) hyE (show headM.l.length = 6 from rfl)
  rw [HS2.out] at hcE
  have hS2 := HYV.out.later bV
  refine nany_one 3 (by kernel_rfl) ?_
  refine nop_value' 36 (v := .slice (some ⟨gE, 0, none⟩) 6 6) (w' := V2) rfl (by rfl) rfl (by rw [hV2, ← hgE]; go_simp) ?_
  clear hV2 hgE
  refine ⟨hS2, ?_⟩
  simp only [List.setIfInBounds_toArray, List.set_cons_zero, List.set_cons_succ]
  refine nany_one 4 (by kernel_rfl) ?_
  refine nop_value' 37 (v := .string s2) (w' := V2) rfl (by rfl) rfl (by go_simp) ?_
  refine ⟨hS2, ?_⟩
  simp only [List.setIfInBounds_toArray, List.set_cons_zero, List.set_cons_succ]
  refine nany_take 5 38 (.bool false) rfl rfl (by kernel_rfl) (by kernel_rfl) (by kernel_rfl) (fun _ _ _ h => h) (Or.inl ⟨by rfl, ?_⟩) hS2 ?_
  · rintro w' hS'
    have hz := HSE.out; simp [execOp, Act.eval, go_sem, hz]
  simp only [List.setIfInBounds_toArray, List.set_cons_zero, List.set_cons_succ]
  refine nany_take 6 39 (.bool false) rfl rfl (by kernel_rfl) (by kernel_rfl) (by kernel_rfl) (fun _ _ _ h => h) (Or.inl ⟨by rfl, ?_⟩) hS2 ?_
  · rintro w' hS'
    go_simp
  simp only [List.setIfInBounds_toArray, List.set_cons_zero, List.set_cons_succ]
  refine nany_take 7 40 (.int .i64 op) rfl rfl (by kernel_rfl) (by kernel_rfl) (by kernel_rfl) (fun _ _ _ h => h) (Or.inl ⟨by rfl, ?_⟩) hS2 ?_
  · rintro w' hS'
    go_simp
  simp only [List.setIfInBounds_toArray, List.set_cons_zero, List.set_cons_succ]
  refine nany_take 8 41 (.bool true) rfl rfl (by kernel_rfl) (by kernel_rfl) (by kernel_rfl) (fun _ _ _ h => h) (Or.inl ⟨by rfl, ?_⟩) hS2 ?_
  · rintro w' hS'
    go_simp
  simp only [List.setIfInBounds_toArray, List.set_cons_zero, List.set_cons_succ]
  refine nany_take 9 42 (.bool true) rfl rfl (by kernel_rfl) (by kernel_rfl) (by kernel_rfl) (fun _ _ _ h => h) (Or.inl ⟨by rfl, ?_⟩) hS2 ?_
  · rintro w' hS'
    go_simp
  simp only [List.setIfInBounds_toArray, List.set_cons_zero, List.set_cons_succ]
  refine nany_take 10 43 (.int .i64 op) rfl rfl (by kernel_rfl) (by kernel_rfl) (by kernel_rfl) (fun _ _ _ h => h) (Or.inl ⟨by rfl, ?_⟩) hS2 ?_
  · rintro w' hS'
    go_simp
  simp only [List.setIfInBounds_toArray, List.set_cons_zero, List.set_cons_succ]
  refine nany_take 11 44 (.bool true) rfl rfl (by kernel_rfl) (by kernel_rfl) (by kernel_rfl) (fun _ _ _ h => h) (Or.inl ⟨by rfl, ?_⟩) hS2 ?_
  · rintro w' hS'
    go_simp
  simp only [List.setIfInBounds_toArray, List.set_cons_zero, List.set_cons_succ]
  refine nany_take 12 45 (.bool true) rfl rfl (by kernel_rfl) (by kernel_rfl) (by kernel_rfl) (fun _ _ _ h => h) (Or.inl ⟨by rfl, ?_⟩) hS2 ?_
  · rintro w' hS'
    go_simp
  simp only [List.setIfInBounds_toArray, List.set_cons_zero, List.set_cons_succ]
  refine nany_take 13 46 (.bool true) rfl rfl (by kernel_rfl) (by kernel_rfl) (by kernel_rfl) (fun _ _ _ h => h) (Or.inl ⟨by rfl, ?_⟩) hS2 ?_
  · rintro w' hS'
    go_simp
  simp only [List.setIfInBounds_toArray, List.set_cons_zero, List.set_cons_succ]
  refine wpAnyH_done (by kernel_rfl) ?_ _
  have HBX := hid (HBV.out.trans (bV.mono HBV.out.size))
  clear bV hyE hcE hS2 hS
  go_wp2
  go_ret2
  exact ⟨rfl, HBX.out⟩
end Go.Proofs.Ytlflbpemjlgdiaa
