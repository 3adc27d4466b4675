/- A connection that begins. -/
import Derived.Test.YtmmijbiapflneaaTeB
namespace Go.Proofs.Ytmmijbiapflneaa
open Go.RowKit Go.Maps
set_option linter.unusedVariables false
/-- A new one: what the other side's Syn said. -/
def newC (s : Sg) (first : Int) : Cn := ⟨a32 s.seq 1, [], fun _ => none, 0, true, false, 0, first, a32 first 1, [], s.win, mostI s.mss, 0, 0, false, false, s.to_, s.fr, 1, true, false, false⟩
set_option maxRecDepth 100000 in
set_option maxHeartbeats 8000000 in
theorem New_any (w : World) (s : Sg) (first : Int) (v : Value) (hv : ∃ a n c, v = .slice a n c) (hf : bits .andNot .i64 s.fl 8 = 2) :
    Calls Try.prog 22 #[.agg (sgC s.fr s.to_ s.seq s.ack s.fl s.win s.mss v), .int .u32 first] w fun e w' => ∃ p S gm, e = .returned (.tuple #[.pointer (some ⟨p, 0, none⟩), .int .i64 0]) ∧ CnX w' p S (newC s first) (.slice none 0 0) (.map (some gm)) (.slice none 0 0) ∧ Below w.heap.size w w' ∧ ∀ b, S b → w.heap.size ≤ b := by
  obtain ⟨va, vn, vk, rfl⟩ := hv
  obtain ⟨W1, hW1, h1, b1⟩ := boxS w (sgC s.fr s.to_ s.seq s.ack s.fl s.win s.mss (.slice va vn vk)) 30
  obtain ⟨g, hg⟩ : ∃ g, w.heap.size = g := ⟨_, rfl⟩
  rw [hg] at h1
  obtain ⟨f, t, q, ak, fl, wi, mss, dat⟩ := s
  simp only at hf h1 hW1 ⊢
  have p0 := cell_of h1 (i := 0) (v := .int .i64 f) rfl
  have p1 := cell_of h1 (i := 1) (v := .int .i64 t) rfl
  have p2 := cell_of h1 (i := 2) (v := .int .u32 q) rfl
  have p4 := cell_of h1 (i := 4) (v := .int .i64 fl) rfl
  have p5 := cell_of h1 (i := 5) (v := .int .i64 wi) rfl
  have p6 := cell_of h1 (i := 6) (v := .int .i64 mss) rfl
  have HMO : Hid (∀ W, Calls Try.prog 40 #[.int .i64 mss] W fun e w' => e = .returned (.int .i64 (mostI mss)) ∧ w' = W) := hid (fun W => mostOf_any W mss)
  have q1 := wrapU_add q 1
  have q2 := wrapU_add first 1
  obtain ⟨R, hR⟩ : ∃ x, a32 q 1 = x := ⟨_, rfl⟩
  obtain ⟨N, hN⟩ : ∃ x, a32 first 1 = x := ⟨_, rfl⟩
  obtain ⟨M, hM⟩ : ∃ x, mostI mss = x := ⟨_, rfl⟩
  obtain ⟨C0, hC0⟩ : ∃ x : Cn, x = ⟨R, [], fun _ => none, 0, true, false, 0, first, N, [], wi, M, 0, 0, false, false, t, f, 1, true, false, false⟩ := ⟨_, rfl⟩
  have hCe : newC ⟨f, t, q, ak, fl, wi, mss, dat⟩ first = C0 := by rw [hC0, ← hR, ← hN, ← hM]; rfl
  have FIN : Hid (∀ (W : World) (gm p : Nat), W.heap[p]? = some (.cells (cnC C0 (.slice none 0 0) (.map (some gm)) (.slice none 0 0)) 60 (0, 0)) → MpC W gm 0 (fun _ => none) → Below w.heap.size w W → w.heap.size ≤ gm → w.heap.size ≤ p → gm < W.heap.size → ∃ p' S gm', Ending.returned (.tuple #[.pointer (some ⟨p, 0, none⟩), .int .i64 0]) = Ending.returned (.tuple #[.pointer (some ⟨p', 0, none⟩), .int .i64 0]) ∧ CnX W p' S (newC ⟨f, t, q, ak, fl, wi, mss, dat⟩ first) (.slice none 0 0) (.map (some gm')) (.slice none 0 0) ∧ Below w.heap.size w W ∧ ∀ b, S b → w.heap.size ≤ b) := hid (fun W gm p h1 h2 h3 h4 h5 h6 => by
    refine ⟨p, fun b => b = p ∨ b = gm, gm, rfl, ?_, h3, fun b hb => by rcases hb with rfl | rfl <;> assumption⟩
    rw [hCe]
    have e1 : C0.came = [] := by rw [hC0]
    have e2 : C0.waits = [] := by rw [hC0]
    have e3 : C0.lv = true := by rw [hC0]
    have e4 : C0.ec = 0 := by rw [hC0]
    have e5 : C0.E = fun _ => none := by rw [hC0]
    refine ⟨h1, by rw [e1]; exact RB.none W, by rw [e2]; exact RB.none W, .inr ⟨e3, gm, rfl, .inr rfl, by rw [e4, e5]; exact h2⟩, fun b h _ => blk_none h, .inl rfl, fun b h => blk_none h, fun b h => blk_none h, fun b hb => ?_⟩
    rcases hb with rfl | rfl
    · exact (Array.getElem?_eq_some_iff.1 h1).1
    · exact h6)
  rw [hR] at q1
  rw [hN] at q2
  rw [hM] at HMO
  rw [← hC0.symm] at hCe
  have HC := hid hC0
  have HB1 := hid b1
  have HW := hW1.symm
  clear h1 b1 hW1 hR hN hM hCe
  go_enter Try.func22, Try.ntmps22
  go_upto_region 3 with fail
  try simp only [Act.put]
  refine wp_region_held_drew (S := (fun w' => w'.cell? ⟨g, 2, none⟩ = some (.int .u32 q) ∧ w'.cell? ⟨g, 5, none⟩ = some (.int .i64 wi) ∧ w'.cell? ⟨g, 6, none⟩ = some (.int .i64 mss) ∧ w'.cell? ⟨g, 1, none⟩ = some (.int .i64 t) ∧ w'.cell? ⟨g, 0, none⟩ = some (.int .i64 f))) (by kernel_rfl) ⟨p2, p5, p6, p1, p0⟩ (fun hS => ?_)
  obtain ⟨w2, hw2⟩ : ∃ W, W = W1.drew := ⟨_, rfl⟩
  rw [← hw2] at hS ⊢
  have HB2 := hid (show Below w.heap.size w w2 by rw [hw2]; exact HB1.out.drew)
  clear hw2
  refine nany_take 0 10 (.pointer (some ⟨g, 2, none⟩)) rfl rfl (by kernel_rfl) (by kernel_rfl) (by kernel_rfl) (fun _ _ _ h => h) (Or.inl ⟨by rfl, ?_⟩) hS ?_
  · rintro w' hS'
    first | go_simp | (go_simp; exact hS'.1) | (go_simp; exact hS'.2.1) | (go_simp; exact hS'.2.2.1) | (go_simp; exact hS'.2.2.2.1) | (go_simp; exact hS'.2.2.2.2)
  simp only [List.setIfInBounds_toArray, List.set_cons_zero, List.set_cons_succ]
  refine nany_take 1 11 (.int .u32 q) rfl rfl (by kernel_rfl) (by kernel_rfl) (by kernel_rfl) (fun _ _ _ h => h) (Or.inl ⟨by rfl, ?_⟩) hS ?_
  · rintro w' hS'
    first | go_simp | (go_simp; exact hS'.1) | (go_simp; exact hS'.2.1) | (go_simp; exact hS'.2.2.1) | (go_simp; exact hS'.2.2.2.1) | (go_simp; exact hS'.2.2.2.2)
  simp only [List.setIfInBounds_toArray, List.set_cons_zero, List.set_cons_succ]
  refine nany_take 2 12 (.int .u32 R) rfl rfl (by kernel_rfl) (by kernel_rfl) (by kernel_rfl) (fun _ _ _ h => h) (Or.inl ⟨by rfl, ?_⟩) hS ?_
  · rintro w' hS'
    first | go_simp | (go_simp; exact hS'.1) | (go_simp; exact hS'.2.1) | (go_simp; exact hS'.2.2.1) | (go_simp; exact hS'.2.2.2.1) | (go_simp; exact hS'.2.2.2.2)
  simp only [List.setIfInBounds_toArray, List.set_cons_zero, List.set_cons_succ]
  refine nany_take 5 15 (.int .u32 first) rfl rfl (by kernel_rfl) (by kernel_rfl) (by kernel_rfl) (fun _ _ _ h => h) (Or.inl ⟨by rfl, ?_⟩) hS ?_
  · rintro w' hS'
    first | go_simp | (go_simp; exact hS'.1) | (go_simp; exact hS'.2.1) | (go_simp; exact hS'.2.2.1) | (go_simp; exact hS'.2.2.2.1) | (go_simp; exact hS'.2.2.2.2)
  simp only [List.setIfInBounds_toArray, List.set_cons_zero, List.set_cons_succ]
  refine nany_take 6 16 (.int .u32 first) rfl rfl (by kernel_rfl) (by kernel_rfl) (by kernel_rfl) (fun _ _ _ h => h) (Or.inl ⟨by rfl, ?_⟩) hS ?_
  · rintro w' hS'
    first | go_simp | (go_simp; exact hS'.1) | (go_simp; exact hS'.2.1) | (go_simp; exact hS'.2.2.1) | (go_simp; exact hS'.2.2.2.1) | (go_simp; exact hS'.2.2.2.2)
  simp only [List.setIfInBounds_toArray, List.set_cons_zero, List.set_cons_succ]
  refine nany_take 7 17 (.int .u32 N) rfl rfl (by kernel_rfl) (by kernel_rfl) (by kernel_rfl) (fun _ _ _ h => h) (Or.inl ⟨by rfl, ?_⟩) hS ?_
  · rintro w' hS'
    first | go_simp | (go_simp; exact hS'.1) | (go_simp; exact hS'.2.1) | (go_simp; exact hS'.2.2.1) | (go_simp; exact hS'.2.2.2.1) | (go_simp; exact hS'.2.2.2.2)
  simp only [List.setIfInBounds_toArray, List.set_cons_zero, List.set_cons_succ]
  refine nany_take 8 18 (.pointer (some ⟨g, 5, none⟩)) rfl rfl (by kernel_rfl) (by kernel_rfl) (by kernel_rfl) (fun _ _ _ h => h) (Or.inl ⟨by rfl, ?_⟩) hS ?_
  · rintro w' hS'
    first | go_simp | (go_simp; exact hS'.1) | (go_simp; exact hS'.2.1) | (go_simp; exact hS'.2.2.1) | (go_simp; exact hS'.2.2.2.1) | (go_simp; exact hS'.2.2.2.2)
  simp only [List.setIfInBounds_toArray, List.set_cons_zero, List.set_cons_succ]
  refine nany_take 9 19 (.int .i64 wi) rfl rfl (by kernel_rfl) (by kernel_rfl) (by kernel_rfl) (fun _ _ _ h => h) (Or.inl ⟨by rfl, ?_⟩) hS ?_
  · rintro w' hS'
    first | go_simp | (go_simp; exact hS'.1) | (go_simp; exact hS'.2.1) | (go_simp; exact hS'.2.2.1) | (go_simp; exact hS'.2.2.2.1) | (go_simp; exact hS'.2.2.2.2)
  simp only [List.setIfInBounds_toArray, List.set_cons_zero, List.set_cons_succ]
  refine nany_take 10 20 (.pointer (some ⟨g, 6, none⟩)) rfl rfl (by kernel_rfl) (by kernel_rfl) (by kernel_rfl) (fun _ _ _ h => h) (Or.inl ⟨by rfl, ?_⟩) hS ?_
  · rintro w' hS'
    first | go_simp | (go_simp; exact hS'.1) | (go_simp; exact hS'.2.1) | (go_simp; exact hS'.2.2.1) | (go_simp; exact hS'.2.2.2.1) | (go_simp; exact hS'.2.2.2.2)
  simp only [List.setIfInBounds_toArray, List.set_cons_zero, List.set_cons_succ]
  refine nany_take 11 21 (.int .i64 mss) rfl rfl (by kernel_rfl) (by kernel_rfl) (by kernel_rfl) (fun _ _ _ h => h) (Or.inl ⟨by rfl, ?_⟩) hS ?_
  · rintro w' hS'
    first | go_simp | (go_simp; exact hS'.1) | (go_simp; exact hS'.2.1) | (go_simp; exact hS'.2.2.1) | (go_simp; exact hS'.2.2.2.1) | (go_simp; exact hS'.2.2.2.2)
  simp only [List.setIfInBounds_toArray, List.set_cons_zero, List.set_cons_succ]
  refine nany_take 14 24 (.pointer (some ⟨g, 1, none⟩)) rfl rfl (by kernel_rfl) (by kernel_rfl) (by kernel_rfl) (fun _ _ _ h => h) (Or.inl ⟨by rfl, ?_⟩) hS ?_
  · rintro w' hS'
    first | go_simp | (go_simp; exact hS'.1) | (go_simp; exact hS'.2.1) | (go_simp; exact hS'.2.2.1) | (go_simp; exact hS'.2.2.2.1) | (go_simp; exact hS'.2.2.2.2)
  simp only [List.setIfInBounds_toArray, List.set_cons_zero, List.set_cons_succ]
  refine nany_take 15 25 (.int .i64 t) rfl rfl (by kernel_rfl) (by kernel_rfl) (by kernel_rfl) (fun _ _ _ h => h) (Or.inl ⟨by rfl, ?_⟩) hS ?_
  · rintro w' hS'
    first | go_simp | (go_simp; exact hS'.1) | (go_simp; exact hS'.2.1) | (go_simp; exact hS'.2.2.1) | (go_simp; exact hS'.2.2.2.1) | (go_simp; exact hS'.2.2.2.2)
  simp only [List.setIfInBounds_toArray, List.set_cons_zero, List.set_cons_succ]
  refine nany_take 16 26 (.pointer (some ⟨g, 0, none⟩)) rfl rfl (by kernel_rfl) (by kernel_rfl) (by kernel_rfl) (fun _ _ _ h => h) (Or.inl ⟨by rfl, ?_⟩) hS ?_
  · rintro w' hS'
    first | go_simp | (go_simp; exact hS'.1) | (go_simp; exact hS'.2.1) | (go_simp; exact hS'.2.2.1) | (go_simp; exact hS'.2.2.2.1) | (go_simp; exact hS'.2.2.2.2)
  simp only [List.setIfInBounds_toArray, List.set_cons_zero, List.set_cons_succ]
  refine nany_take 17 27 (.int .i64 f) rfl rfl (by kernel_rfl) (by kernel_rfl) (by kernel_rfl) (fun _ _ _ h => h) (Or.inl ⟨by rfl, ?_⟩) hS ?_
  · rintro w' hS'
    first | go_simp | (go_simp; exact hS'.1) | (go_simp; exact hS'.2.1) | (go_simp; exact hS'.2.2.1) | (go_simp; exact hS'.2.2.2.1) | (go_simp; exact hS'.2.2.2.2)
  simp only [List.setIfInBounds_toArray, List.set_cons_zero, List.set_cons_succ]
  obtain ⟨w3, hw3⟩ : ∃ W, W = w2.alloc (.map #[] 0) := ⟨_, rfl⟩
  have b23 : Below w2.heap.size w2 w3 := by rw [hw3]; exact below_alloc (Below.refl _ _) (Nat.le_refl _) _
  have hS3 := And.intro (cell_later b23 hS.1) (And.intro (cell_later b23 hS.2.1) (And.intro (cell_later b23 hS.2.2.1) (And.intro (cell_later b23 hS.2.2.2.1) (cell_later b23 hS.2.2.2.2))))
  have HB3 := hid (HB2.out.trans (b23.mono HB2.out.size))
  have HM3 : Hid (MpC w3 w2.heap.size 0 (fun _ => none)) := hid (by rw [hw3]; exact MpC.made w2)
  have hmk := @run_makeMap Try.prog
  refine nany_two 3 12 (by kernel_rfl) ?_ ?_
  · refine nop_value' 13 (v := .map (some w2.heap.size)) (w' := w3) rfl (by rfl) rfl (by rw [hw3]; go_simp) ?_
    refine ⟨hS3, ?_⟩
    simp only [List.setIfInBounds_toArray, List.set_cons_zero, List.set_cons_succ]
    clear hw3
    have HGE := hid HB2.out.size
    have HGE2 := hid b23.size
    have HLT := hid HM3.out.lt
    obtain ⟨gm, hgm⟩ : ∃ x, x = w2.heap.size := ⟨_, rfl⟩
    rw [← hgm] at HM3 HGE HLT ⊢
    clear b23
    refine nany_take 4 14 (.agg #[.int .u32 R, .slice none 0 0, .map (some gm), .bool false, .int .u32 0]) rfl rfl (by kernel_rfl) (by kernel_rfl) (by kernel_rfl) (fun _ _ _ h => h) (Or.inl ⟨by rfl, ?_⟩) hS3 ?_
    · rintro w' hS'
      first | go_simp | (go_simp; exact hS'.1) | (go_simp; exact hS'.2.1) | (go_simp; exact hS'.2.2.1) | (go_simp; exact hS'.2.2.2.1) | (go_simp; exact hS'.2.2.2.2)
    simp only [List.setIfInBounds_toArray, List.set_cons_zero, List.set_cons_succ]
    refine nany_one 12 (by kernel_rfl) ?_
    refine nop_callE 22 (f := 40) (args := #[.int .i64 mss]) (R := fun v w' => v = .int .i64 M ∧ w' = w3) rfl (by rfl) rfl (by go_simp) ((HMO.out w3).mono (fun e w' h => ⟨_, h.1, rfl, h.2⟩)) ?_
    rintro v v5 ⟨rfl, hv5⟩
    subst hv5
    refine ⟨hS3, ?_⟩
    simp only [List.setIfInBounds_toArray, List.set_cons_zero, List.set_cons_succ]
    refine nany_take 13 23 (.agg #[.int .u32 first, .int .u32 N, .slice none 0 0, .int .i64 wi, .int .i64 M, .int .i64 0, .int .i64 0, .bool false, .bool false]) rfl rfl (by kernel_rfl) (by kernel_rfl) (by kernel_rfl) (fun _ _ _ h => h) (Or.inl ⟨by rfl, ?_⟩) hS3 ?_
    · rintro w' hS'
      first | go_simp | (go_simp; exact hS'.1) | (go_simp; exact hS'.2.1) | (go_simp; exact hS'.2.2.1) | (go_simp; exact hS'.2.2.2.1) | (go_simp; exact hS'.2.2.2.2)
    simp only [List.setIfInBounds_toArray, List.set_cons_zero, List.set_cons_succ]
    clear hS
    refine nany_take 18 28 (.agg (cnC C0 (.slice none 0 0) (.map (some gm)) (.slice none 0 0))) rfl rfl (by kernel_rfl) (by kernel_rfl) (by kernel_rfl) (fun _ _ _ h => h) (Or.inl ⟨by rfl, ?_⟩) hS3 ?_
    · rintro w' hS'
      first | go_simp | (go_simp; exact hS'.1) | (go_simp; exact hS'.2.1) | (go_simp; exact hS'.2.2.1) | (go_simp; exact hS'.2.2.2.1) | (go_simp; exact hS'.2.2.2.2)
    simp only [List.setIfInBounds_toArray, List.set_cons_zero, List.set_cons_succ]
    obtain ⟨w4, hw4⟩ : ∃ W, W = v5.alloc (.cells (cnC C0 (.slice none 0 0) (.map (some gm)) (.slice none 0 0)) 60) := ⟨_, rfl⟩
    have b34 : Below v5.heap.size v5 w4 := by rw [hw4]; exact below_alloc (Below.refl _ _) (Nat.le_refl _) _
    have hS4 := And.intro (cell_later b34 hS3.1) (And.intro (cell_later b34 hS3.2.1) (And.intro (cell_later b34 hS3.2.2.1) (And.intro (cell_later b34 hS3.2.2.2.1) (cell_later b34 hS3.2.2.2.2))))
    have H4 := hid (show w4.heap[v5.heap.size]? = some (.cells (cnC C0 (.slice none 0 0) (.map (some gm)) (.slice none 0 0)) 60 (0, 0)) by rw [hw4]; exact alloc_new v5 _)
    have HM4 := hid (HM3.out.keep (b34.block _ HM3.out.lt))
    have HB4 := hid (HB3.out.trans (b34.mono HB3.out.size))
    refine nany_one 19 (by kernel_rfl) ?_
    refine nop_value' 29 (v := .pointer (some ⟨v5.heap.size, 0, none⟩)) (w' := w4) rfl (by rfl) rfl (by rw [hw4]; go_simp) ?_
    refine ⟨hS4, ?_⟩
    simp only [List.setIfInBounds_toArray, List.set_cons_zero, List.set_cons_succ]
    refine nany_take 20 4 (.pointer (some ⟨v5.heap.size, 0, none⟩)) rfl rfl (by kernel_rfl) (by kernel_rfl) (by kernel_rfl) (fun _ _ _ h => h) (Or.inl ⟨by rfl, ?_⟩) hS4 ?_
    · rintro w' hS'
      first | go_simp | (go_simp; exact hS'.1) | (go_simp; exact hS'.2.1) | (go_simp; exact hS'.2.2.1) | (go_simp; exact hS'.2.2.2.1) | (go_simp; exact hS'.2.2.2.2)
    simp only [List.setIfInBounds_toArray, List.set_cons_zero, List.set_cons_succ]
    refine nany_take 21 5 (.int .i64 0) rfl rfl (by kernel_rfl) (by kernel_rfl) (by kernel_rfl) (fun _ _ _ h => h) (Or.inl ⟨by rfl, ?_⟩) hS4 ?_
    · rintro w' hS'
      first | go_simp | (go_simp; exact hS'.1) | (go_simp; exact hS'.2.1) | (go_simp; exact hS'.2.2.1) | (go_simp; exact hS'.2.2.2.1) | (go_simp; exact hS'.2.2.2.2)
    simp only [List.setIfInBounds_toArray, List.set_cons_zero, List.set_cons_succ]
    refine wpAnyH_done (by kernel_rfl) ?_ _
    have HSZ4 := hid b34.size
    clear hw4 hS3 hS4 b34
    go_wp2
    go_ret2
    exact FIN.out w4 gm v5.heap.size H4.out HM4.out HB4.out HGE.out (Nat.le_trans HB2.out.size (by have := HB3.out.size; have := HGE2.out; omega)) (Nat.lt_of_lt_of_le HLT.out HSZ4.out)
  · refine nop_callE 22 (f := 40) (args := #[.int .i64 mss]) (R := fun v w' => v = .int .i64 M ∧ w' = w2) rfl (by rfl) rfl (by go_simp) ((HMO.out w2).mono (fun e w' h => ⟨_, h.1, rfl, h.2⟩)) ?_
    rintro v v5 ⟨rfl, hv5⟩
    subst hv5
    refine ⟨hS, ?_⟩
    simp only [List.setIfInBounds_toArray, List.set_cons_zero, List.set_cons_succ]
    refine nany_take 13 23 (.agg #[.int .u32 first, .int .u32 N, .slice none 0 0, .int .i64 wi, .int .i64 M, .int .i64 0, .int .i64 0, .bool false, .bool false]) rfl rfl (by kernel_rfl) (by kernel_rfl) (by kernel_rfl) (fun _ _ _ h => h) (Or.inl ⟨by rfl, ?_⟩) hS ?_
    · rintro w' hS'
      first | go_simp | (go_simp; exact hS'.1) | (go_simp; exact hS'.2.1) | (go_simp; exact hS'.2.2.1) | (go_simp; exact hS'.2.2.2.1) | (go_simp; exact hS'.2.2.2.2)
    simp only [List.setIfInBounds_toArray, List.set_cons_zero, List.set_cons_succ]
    refine nany_one 3 (by kernel_rfl) ?_
    refine nop_value' 13 (v := .map (some v5.heap.size)) (w' := w3) rfl (by rfl) rfl (by rw [hw3]; go_simp) ?_
    refine ⟨hS3, ?_⟩
    simp only [List.setIfInBounds_toArray, List.set_cons_zero, List.set_cons_succ]
    clear hw3
    have HGE := hid HB2.out.size
    have HGE2 := hid b23.size
    have HLT := hid HM3.out.lt
    obtain ⟨gm, hgm⟩ : ∃ x, x = v5.heap.size := ⟨_, rfl⟩
    rw [← hgm] at HM3 HGE HLT ⊢
    clear b23
    refine nany_take 4 14 (.agg #[.int .u32 R, .slice none 0 0, .map (some gm), .bool false, .int .u32 0]) rfl rfl (by kernel_rfl) (by kernel_rfl) (by kernel_rfl) (fun _ _ _ h => h) (Or.inl ⟨by rfl, ?_⟩) hS3 ?_
    · rintro w' hS'
      first | go_simp | (go_simp; exact hS'.1) | (go_simp; exact hS'.2.1) | (go_simp; exact hS'.2.2.1) | (go_simp; exact hS'.2.2.2.1) | (go_simp; exact hS'.2.2.2.2)
    simp only [List.setIfInBounds_toArray, List.set_cons_zero, List.set_cons_succ]
    clear hS
    refine nany_take 18 28 (.agg (cnC C0 (.slice none 0 0) (.map (some gm)) (.slice none 0 0))) rfl rfl (by kernel_rfl) (by kernel_rfl) (by kernel_rfl) (fun _ _ _ h => h) (Or.inl ⟨by rfl, ?_⟩) hS3 ?_
    · rintro w' hS'
      first | go_simp | (go_simp; exact hS'.1) | (go_simp; exact hS'.2.1) | (go_simp; exact hS'.2.2.1) | (go_simp; exact hS'.2.2.2.1) | (go_simp; exact hS'.2.2.2.2)
    simp only [List.setIfInBounds_toArray, List.set_cons_zero, List.set_cons_succ]
    obtain ⟨w4, hw4⟩ : ∃ W, W = w3.alloc (.cells (cnC C0 (.slice none 0 0) (.map (some gm)) (.slice none 0 0)) 60) := ⟨_, rfl⟩
    have b34 : Below w3.heap.size w3 w4 := by rw [hw4]; exact below_alloc (Below.refl _ _) (Nat.le_refl _) _
    have hS4 := And.intro (cell_later b34 hS3.1) (And.intro (cell_later b34 hS3.2.1) (And.intro (cell_later b34 hS3.2.2.1) (And.intro (cell_later b34 hS3.2.2.2.1) (cell_later b34 hS3.2.2.2.2))))
    have H4 := hid (show w4.heap[w3.heap.size]? = some (.cells (cnC C0 (.slice none 0 0) (.map (some gm)) (.slice none 0 0)) 60 (0, 0)) by rw [hw4]; exact alloc_new w3 _)
    have HM4 := hid (HM3.out.keep (b34.block _ HM3.out.lt))
    have HB4 := hid (HB3.out.trans (b34.mono HB3.out.size))
    refine nany_one 19 (by kernel_rfl) ?_
    refine nop_value' 29 (v := .pointer (some ⟨w3.heap.size, 0, none⟩)) (w' := w4) rfl (by rfl) rfl (by rw [hw4]; go_simp) ?_
    refine ⟨hS4, ?_⟩
    simp only [List.setIfInBounds_toArray, List.set_cons_zero, List.set_cons_succ]
    refine nany_take 20 4 (.pointer (some ⟨w3.heap.size, 0, none⟩)) rfl rfl (by kernel_rfl) (by kernel_rfl) (by kernel_rfl) (fun _ _ _ h => h) (Or.inl ⟨by rfl, ?_⟩) hS4 ?_
    · rintro w' hS'
      first | go_simp | (go_simp; exact hS'.1) | (go_simp; exact hS'.2.1) | (go_simp; exact hS'.2.2.1) | (go_simp; exact hS'.2.2.2.1) | (go_simp; exact hS'.2.2.2.2)
    simp only [List.setIfInBounds_toArray, List.set_cons_zero, List.set_cons_succ]
    refine nany_take 21 5 (.int .i64 0) rfl rfl (by kernel_rfl) (by kernel_rfl) (by kernel_rfl) (fun _ _ _ h => h) (Or.inl ⟨by rfl, ?_⟩) hS4 ?_
    · rintro w' hS'
      first | go_simp | (go_simp; exact hS'.1) | (go_simp; exact hS'.2.1) | (go_simp; exact hS'.2.2.1) | (go_simp; exact hS'.2.2.2.1) | (go_simp; exact hS'.2.2.2.2)
    simp only [List.setIfInBounds_toArray, List.set_cons_zero, List.set_cons_succ]
    refine wpAnyH_done (by kernel_rfl) ?_ _
    have HSZ4 := hid b34.size
    clear hw4 hS3 hS4 b34
    go_wp2
    go_ret2
    exact FIN.out w4 gm w3.heap.size H4.out HM4.out HB4.out HGE.out (Nat.le_trans HB2.out.size (by have := HB3.out.size; have := HGE2.out; omega)) (Nat.lt_of_lt_of_le HLT.out HSZ4.out)
end Go.Proofs.Ytmmijbiapflneaa
