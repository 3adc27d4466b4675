/- The document's Parse. -/
import Derived.Test.YtlflbpemjlgdiaaEhA
namespace Go.Proofs.Ytlflbpemjlgdiaa
open Go.RowKit Go.Maps
set_option linter.unusedVariables false

theorem GO.nil {w : World} {B g : Nat} (h : w.heap[g]? = some (.cells #[] 5 (0, 0))) (hB : B ≤ g) : GO w B (.slice (some ⟨g, 0, none⟩) 0 0) [] :=
  ⟨fun x hx => by simp at hx, by simp, .inr ⟨g, 0, #[], rfl, hB, h, by simp, by simp, by simp, by simp⟩⟩
set_option maxRecDepth 100000 in
set_option maxHeartbeats 1000000 in
theorem rParse_size (w : World) (a : Option Addr) (n c : Nat) (hn : n < 14 ∨ 1514 < n) :
    Calls Try.prog 9 #[.slice a n c] w fun e w' => e = .returned (.tuple #[.agg (frC mac0 mac0 0 (.slice none 0 0)), .int .i64 14]) ∧ Below w.heap.size w w' := by
  obtain ⟨g, hg⟩ : ∃ g, w.heap.size = g := ⟨_, rfl⟩
  obtain ⟨W1, hW1⟩ : ∃ W, W = w.alloc (.cells #[.int .u8 0, .int .u8 0, .int .u8 0, .int .u8 0, .int .u8 0, .int .u8 0, .int .u8 0, .int .u8 0, .int .u8 0, .int .u8 0, .int .u8 0, .int .u8 0, .int .i64 0, .slice none 0 0] 30) := ⟨_, rfl⟩
  have b1 : Below w.heap.size w W1 := by rw [hW1]; exact below_alloc (Below.refl _ _) (Nat.le_refl _) _
  have h1 : W1.heap[g]? = some (.cells (frC mac0 mac0 0 (.slice none 0 0)) 30 (0, 0)) := by rw [hW1, ← hg]; exact alloc_new w _
  have H1 := hid h1
  have HB1 := hid b1
  have HG := hid hg
  clear h1 b1
  have HW := hW1.symm
  clear hW1
  by_cases hs : n < 14
  · have hsi : (n : Int) < 14 := by omega
    go_enter Try.func9, Try.ntmps9
    go_wp2_with (refine wpList_store_row rfl 30 _ _ rfl g (frC mac0 mac0 0 (.slice none 0 0)) rfl rfl 30 _ H1.out sizeFd rfl (frC_one _ _ _ _ rfl) ?_)
    refine bodyPost_ret (results_ct rfl _ _ g (frC mac0 mac0 0 (.slice none 0 0)) _ _ rfl (setRow_heap _ g _ _ _ _ H1.out) Try.underlying30 sizeFd) rfl ⟨rfl, ?_⟩
    have hbw := (setRow_mods W1 g (frC mac0 mac0 0 (.slice none 0 0))).to_below HB1.out HB1.out.size (fun x hx => by rw [hx, HG.out]; exact Nat.le_refl _)
    first | exact hbw | (rw [HG.out] at hbw; exact hbw)
  · have hsi : ¬ ((n : Int) < 14) := by omega
    have hsj : (1514 : Int) < n := by omega
    go_enter Try.func9, Try.ntmps9
    go_wp2_with (refine wpList_store_row rfl 30 _ _ rfl g (frC mac0 mac0 0 (.slice none 0 0)) rfl rfl 30 _ H1.out sizeFd rfl (frC_one _ _ _ _ rfl) ?_)
    refine bodyPost_ret (results_ct rfl _ _ g (frC mac0 mac0 0 (.slice none 0 0)) _ _ rfl (setRow_heap _ g _ _ _ _ H1.out) Try.underlying30 sizeFd) rfl ⟨rfl, ?_⟩
    have hbw := (setRow_mods W1 g (frC mac0 mac0 0 (.slice none 0 0))).to_below HB1.out HB1.out.size (fun x hx => by rw [hx, HG.out]; exact Nat.le_refl _)
    first | exact hbw | (rw [HG.out] at hbw; exact hbw)
theorem kind_at (l : List Int) (h : 14 ≤ l.length) : kindOf l = 256 * l.getD 12 0 + l.getD 13 0 := by
  have e : (l.drop 12).take 2 = [l.getD 12 0, l.getD 13 0] := by
    apply List.ext_getElem?
    intro i
    rw [List.getElem?_take, List.getElem?_drop]
    rcases (show i = 0 ∨ i = 1 ∨ 2 ≤ i by omega) with rfl | rfl | h2
    · simp [List.getD, show 12 < l.length by omega]
    · simp [List.getD, show 13 < l.length by omega]
    · rw [if_neg (by omega), List.getElem?_eq_none (by simp; omega)]
  unfold kindOf
  rw [e]
  simp only [beOf, beOn]
  omega
set_option maxRecDepth 100000 in
set_option maxHeartbeats 2000000 in
theorem rParse_ok (w : World) (a : Option Addr) (n c : Nat) (l : List Int) (hn : l.length = n) (h14 : 14 ≤ n) (h15 : n ≤ 1514) (hnc : n ≤ c) (hb : Bytes w a l) :
    Calls Try.prog 9 #[.slice a n c] w fun e w' => ∃ a2 c2, e = .returned (.tuple #[.agg (frC (macOf l) (macOf (l.drop 6)) (kindOf l) (.slice a2 (n - 14) c2)), .int .i64 0]) ∧ By w' (New w) a2 (l.drop 14) ∧ n - 14 ≤ c2 ∧ Below w.heap.size w w' := by
  obtain ⟨g, hg⟩ : ∃ g, w.heap.size = g := ⟨_, rfl⟩
  obtain ⟨W1, hW1⟩ : ∃ W, W = w.alloc (.cells #[.int .u8 0, .int .u8 0, .int .u8 0, .int .u8 0, .int .u8 0, .int .u8 0, .int .u8 0, .int .u8 0, .int .u8 0, .int .u8 0, .int .u8 0, .int .u8 0, .int .i64 0, .slice none 0 0] 30) := ⟨_, rfl⟩
  have b1 : Below w.heap.size w W1 := by rw [hW1]; exact below_alloc (Below.refl _ _) (Nat.le_refl _) _
  have h1 : W1.heap[g]? = some (.cells (frC mac0 mac0 0 (.slice none 0 0)) 30 (0, 0)) := by rw [hW1, ← hg]; exact alloc_new w _
  obtain ⟨b, off, rfl, hcell⟩ := hb.open_ (by omega)
  obtain ⟨a6, s6, c6⟩ := cutL b off n c 6 (by omega) hnc
  obtain ⟨ad, s14, c14⟩ := cutLa b off n c 14 (by omega) hnc
  have hmono : ∀ W, Below W1.heap.size W1 W → Below w.heap.size w W := fun W h => b1.trans (h.mono b1.size)
  have HF0 : Hid (∀ W, Below W1.heap.size W1 W → Calls Try.prog 27 #[.slice (some ⟨b, off, none⟩) n c] W fun e w' => e = .returned (.agg (macC (macOf l))) ∧ Below W.heap.size W w') := hid (fun W h => mac_any W _ n c l hn (by omega) (hb.later (hmono W h)))
  have HF6 : Hid (∀ W, Below W1.heap.size W1 W → Calls Try.prog 27 #[.slice a6 (n - 6) (c - 6)] W fun e w' => e = .returned (.agg (macC (macOf (l.drop 6)))) ∧ Below W.heap.size W w') := hid (fun W h => mac_any W a6 (n - 6) (c - 6) (l.drop 6) (by simp; omega) (by omega) (c6 W l hn (hb.later (hmono W h))))
  have HTW : Hid (∀ (V : World) (gE : Nat), Below W1.heap.size W1 V → V.heap[gE]? = some (.cells #[] 5 (0, 0)) → W1.heap.size ≤ gE → ∃ a2 c2 w2, (Builtin.append_ #[22, 22] 22 #[.slice (some ⟨gE, 0, none⟩) 0 0, .slice (some ad) (n - 14) (c - 14)]).run Try.prog V = .ok (.slice a2 (n - 14) c2) w2 ∧ By w2 (New W1) a2 (l.drop 14) ∧ n - 14 ≤ c2 ∧ Below W1.heap.size W1 w2) := hid (fun V gE hV hE hge => by
    obtain ⟨a2, c2, w2, hap, hgo, hb2⟩ := (GO.nil hE hge).push rfl hV.size (l.drop 14) (some ad) (n - 14) (c - 14) (by simp; omega) (c14 V l hn (hb.later (hmono V hV))) (by omega) 22
    rw [Nat.zero_add] at hap hgo
    rw [List.nil_append] at hgo
    obtain ⟨a3, c3, e3, h3, h4⟩ := hgo.by_ (S := New W1) (fun x hx => hx)
    have hl14 : (l.drop 14).length = n - 14 := by simp; omega
    rw [hl14] at e3 h3
    simp only [Value.slice.injEq, true_and] at e3
    obtain ⟨rfl, rfl⟩ := e3
    exact ⟨a2, c2, w2, hap, h4, h3, hV.trans hb2⟩)
  have hk := kind_at l (by omega)
  have hI12 := mem_getD l IsB hb.isB 12 (by omega)
  have hI13 := mem_getD l IsB hb.isB 13 (by omega)
  have q12 := hcell 12 (by omega)
  have q13 := hcell 13 (by omega)
  have HCW : Hid (∀ W, Below w.heap.size w W → W.cell? ⟨b, off + 12, none⟩ = some (.int .u8 (l.getD 12 0)) ∧ W.cell? ⟨b, off + 13, none⟩ = some (.int .u8 (l.getD 13 0))) := hid (fun W h => ⟨cell_later h q12, cell_later h q13⟩)
  have HCC : Hid (∀ W, Below W1.heap.size W1 W → W.cell? ⟨b, off + 12, none⟩ = some (.int .u8 (l.getD 12 0)) ∧ W.cell? ⟨b, off + 13, none⟩ = some (.int .u8 (l.getD 13 0))) := hid (fun W h => HCW.out W (hmono W h))
  have s6' : ∀ W : World, (Instr.slice 22 (.slice (some ⟨b, off, none⟩) n c) (some (.int .i64 6)) none none).run Try.prog W = .ok (.slice a6 (n - 6) (c - 6)) W := s6
  have s14' : ∀ W : World, (Instr.slice 22 (.slice (some ⟨b, off, none⟩) n c) (some (.int .i64 14)) none none).run Try.prog W = .ok (.slice (some ad) (n - 14) (c - 14)) W := s14
  rw [hk]
  generalize l.getD 12 0 = x12 at *
  generalize l.getD 13 0 = x13 at *
  unfold IsB at hI12 hI13
  obtain ⟨kd, hkd⟩ : ∃ kd, 256 * x12 + x13 = kd := ⟨_, rfl⟩
  rw [hkd]
  have hw1 : IntKind.i64.wrap (256 * x12) = 256 * x12 := IntWalk.i64_in _ (by omega)
  have hw2 : IntKind.i64.wrap (256 * x12 + x13) = kd := by rw [IntWalk.i64_in _ (by omega)]; exact hkd
  have hw3 : IntKind.i64.wrap x12 = x12 := IntWalk.i64_in _ (by omega)
  have hw4 : IntKind.i64.wrap x13 = x13 := IntWalk.i64_in _ (by omega)
  generalize macOf (l.drop 6) = m2 at *
  generalize macOf l = m1 at *
  have H1 := hid h1
  have HB1 := hid b1
  have HG := hid hg
  have hsi : ¬ ((n : Int) < 14) := by omega
  have hsj : ¬ ((1514 : Int) < n) := by omega
  have hi12 : ¬ ((n : Int) ≤ 12) := by omega
  have hi13 : ¬ ((n : Int) ≤ 13) := by omega
  clear h1 b1 hb hn s6 s14 c6 c14 hmono hk hkd hcell q12 q13
  have HW := hW1.symm
  clear hW1
  go_enter Try.func9, Try.ntmps9
  go_upto_region 3 with fail
  refine wp_region_held_drew (S := fun W => W.cell? ⟨b, off + 12, none⟩ = some (.int .u8 x12) ∧ W.cell? ⟨b, off + 13, none⟩ = some (.int .u8 x13)) (by kernel_rfl) (HCC.out W1 (Below.refl _ _)) (fun hS => ?_)
  refine nany_take 0 13 (.slice (some ⟨b, off, none⟩) n c) rfl rfl (by kernel_rfl) (by kernel_rfl) (by kernel_rfl) (fun _ _ _ h => h) (Or.inl ⟨by rfl, ?_⟩) hS ?_
  · rintro w' hS'
    go_simp
  simp only [List.setIfInBounds_toArray, List.set_cons_zero, List.set_cons_succ]
  refine nany_take 2 15 (.slice (some ⟨b, off, none⟩) n c) rfl rfl (by kernel_rfl) (by kernel_rfl) (by kernel_rfl) (fun _ _ _ h => h) (Or.inl ⟨by rfl, ?_⟩) hS ?_
  · rintro w' hS'
    go_simp
  simp only [List.setIfInBounds_toArray, List.set_cons_zero, List.set_cons_succ]
  refine nany_take 3 16 (.slice a6 (n - 6) (c - 6)) rfl rfl (by kernel_rfl) (by kernel_rfl) (by kernel_rfl) (fun _ _ _ h => h) (Or.inl ⟨by rfl, ?_⟩) hS ?_
  · rintro w' hS'
    go_simp
  simp only [List.setIfInBounds_toArray, List.set_cons_zero, List.set_cons_succ]
  refine nany_take 5 18 (.slice (some ⟨b, off, none⟩) n c) rfl rfl (by kernel_rfl) (by kernel_rfl) (by kernel_rfl) (fun _ _ _ h => h) (Or.inl ⟨by rfl, ?_⟩) hS ?_
  · rintro w' hS'
    go_simp
  simp only [List.setIfInBounds_toArray, List.set_cons_zero, List.set_cons_succ]
  refine nany_take 6 19 (.pointer (some ⟨b, off + 12, none⟩)) rfl rfl (by kernel_rfl) (by kernel_rfl) (by kernel_rfl) (fun _ _ _ h => h) (Or.inl ⟨by rfl, ?_⟩) hS ?_
  · rintro w' hS'
    go_simp
  simp only [List.setIfInBounds_toArray, List.set_cons_zero, List.set_cons_succ]
  refine nany_take 7 20 (.int .u8 x12) rfl rfl (by kernel_rfl) (by kernel_rfl) (by kernel_rfl) (fun _ _ _ h => h) (Or.inl ⟨by rfl, ?_⟩) hS ?_
  · rintro w' hS'
    have hc := hS'.1; go_simp
  simp only [List.setIfInBounds_toArray, List.set_cons_zero, List.set_cons_succ]
  refine nany_take 8 21 (.int .i64 x12) rfl rfl (by kernel_rfl) (by kernel_rfl) (by kernel_rfl) (fun _ _ _ h => h) (Or.inl ⟨by rfl, ?_⟩) hS ?_
  · rintro w' hS'
    go_simp
  simp only [List.setIfInBounds_toArray, List.set_cons_zero, List.set_cons_succ]
  refine nany_take 9 22 (.int .i64 (256 * x12)) rfl rfl (by kernel_rfl) (by kernel_rfl) (by kernel_rfl) (fun _ _ _ h => h) (Or.inl ⟨by rfl, ?_⟩) hS ?_
  · rintro w' hS'
    go_simp
  simp only [List.setIfInBounds_toArray, List.set_cons_zero, List.set_cons_succ]
  refine nany_take 10 23 (.slice (some ⟨b, off, none⟩) n c) rfl rfl (by kernel_rfl) (by kernel_rfl) (by kernel_rfl) (fun _ _ _ h => h) (Or.inl ⟨by rfl, ?_⟩) hS ?_
  · rintro w' hS'
    go_simp
  simp only [List.setIfInBounds_toArray, List.set_cons_zero, List.set_cons_succ]
  refine nany_take 11 24 (.pointer (some ⟨b, off + 13, none⟩)) rfl rfl (by kernel_rfl) (by kernel_rfl) (by kernel_rfl) (fun _ _ _ h => h) (Or.inl ⟨by rfl, ?_⟩) hS ?_
  · rintro w' hS'
    go_simp
  simp only [List.setIfInBounds_toArray, List.set_cons_zero, List.set_cons_succ]
  refine nany_take 12 25 (.int .u8 x13) rfl rfl (by kernel_rfl) (by kernel_rfl) (by kernel_rfl) (fun _ _ _ h => h) (Or.inl ⟨by rfl, ?_⟩) hS ?_
  · rintro w' hS'
    have hc := hS'.2; go_simp
  simp only [List.setIfInBounds_toArray, List.set_cons_zero, List.set_cons_succ]
  refine nany_take 13 26 (.int .i64 x13) rfl rfl (by kernel_rfl) (by kernel_rfl) (by kernel_rfl) (fun _ _ _ h => h) (Or.inl ⟨by rfl, ?_⟩) hS ?_
  · rintro w' hS'
    go_simp
  simp only [List.setIfInBounds_toArray, List.set_cons_zero, List.set_cons_succ]
  refine nany_take 14 27 (.int .i64 kd) rfl rfl (by kernel_rfl) (by kernel_rfl) (by kernel_rfl) (fun _ _ _ h => h) (Or.inl ⟨by rfl, ?_⟩) hS ?_
  · rintro w' hS'
    go_simp
  simp only [List.setIfInBounds_toArray, List.set_cons_zero, List.set_cons_succ]
  refine nany_take 16 29 (.slice (some ⟨b, off, none⟩) n c) rfl rfl (by kernel_rfl) (by kernel_rfl) (by kernel_rfl) (fun _ _ _ h => h) (Or.inl ⟨by rfl, ?_⟩) hS ?_
  · rintro w' hS'
    go_simp
  simp only [List.setIfInBounds_toArray, List.set_cons_zero, List.set_cons_succ]
  refine nany_take 17 30 (.slice (some ad) (n - 14) (c - 14)) rfl rfl (by kernel_rfl) (by kernel_rfl) (by kernel_rfl) (fun _ _ _ h => h) (Or.inl ⟨by rfl, ?_⟩) hS ?_
  · rintro w' hS'
    go_simp
  simp only [List.setIfInBounds_toArray, List.set_cons_zero, List.set_cons_succ]
  have hx : Below W1.heap.size W1 W1.drew := (Below.refl _ _).drew
  refine nany_two 1 15 (by kernel_rfl) ?_ ?_
  · refine nop_callE 14 (f := 27) (args := #[.slice (some ⟨b, off, none⟩) n c]) (R := fun v w' => v = .agg (macC m1) ∧ Below (W1.drew).heap.size (W1.drew) w') rfl (by rfl) rfl (by go_simp) ((HF0.out (W1.drew) hx).mono (fun e w' h => ⟨_, h.1, rfl, h.2⟩)) ?_
    rintro v v0 ⟨rfl, hb0⟩
    have hx0 : Below W1.heap.size W1 v0 := (hx).trans (hb0.mono (hx).size)
    refine ⟨HCC.out _ hx0, ?_⟩
    simp only [List.setIfInBounds_toArray, List.set_cons_zero, List.set_cons_succ]
    refine nany_two 4 15 (by kernel_rfl) ?_ ?_
    · refine nop_callE 17 (f := 27) (args := #[.slice a6 (n - 6) (c - 6)]) (R := fun v w' => v = .agg (macC m2) ∧ Below (v0).heap.size (v0) w') rfl (by rfl) rfl (by go_simp) ((HF6.out (v0) hx0).mono (fun e w' h => ⟨_, h.1, rfl, h.2⟩)) ?_
      rintro v v1 ⟨rfl, hb1⟩
      have hx1 : Below W1.heap.size W1 v1 := (hx0).trans (hb1.mono (hx0).size)
      refine ⟨HCC.out _ hx1, ?_⟩
      simp only [List.setIfInBounds_toArray, List.set_cons_zero, List.set_cons_succ]
      refine nany_one 15 (by kernel_rfl) ?_
      obtain ⟨gE, hgE⟩ : ∃ g, (v1).heap.size = g := ⟨_, rfl⟩
      obtain ⟨v2, hw2⟩ : ∃ W, W = (v1).alloc (.cells #[] 5) := ⟨_, rfl⟩
      have hb2 : Below (v1).heap.size (v1) v2 := by rw [hw2]; exact below_alloc (Below.refl _ _) (Nat.le_refl _) _
      have hx2 : Below W1.heap.size W1 v2 := (hx1).trans (hb2.mono (hx1).size)
      have hg2 : v2.heap[gE]? = some (.cells #[] 5 (0, 0)) := by rw [hw2, ← hgE]; exact alloc_new _ _
      have hge : W1.heap.size ≤ gE := by rw [← hgE]; exact (hx1).size
      refine nop_value' 28 (v := .slice (some ⟨gE, 0, none⟩) 0 0) (w' := v2) rfl (by rfl) rfl (by rw [hw2, ← hgE]; go_simp) ?_
      clear hw2 hgE
      refine ⟨HCC.out _ hx2, ?_⟩
      simp only [List.setIfInBounds_toArray, List.set_cons_zero, List.set_cons_succ]
      obtain ⟨a2, c2, w2, hap, hy, hc2, hb2⟩ := HTW.out v2 gE hx2 hg2 hge
      have h2g := (hb2.block g (Array.getElem?_eq_some_iff.1 H1.out).1).trans H1.out
      have hbw := (setRow_mods w2 g (frC m1 m2 kd (.slice a2 (n - 14) c2))).to_below (HB1.out.trans (hb2.mono HB1.out.size)) (Nat.le_trans HB1.out.size hb2.size) (fun x hx => by rw [hx, HG.out]; exact Nat.le_refl _)
      refine nany_one 18 (by kernel_rfl) ?_
      refine nop_value' 31 (v := .slice a2 (n - 14) c2) (w' := w2) rfl (by rfl) rfl (by simp [execOp, resolve, invoke, builtin, Act.eval, hap, Result.andThen]) ?_
      refine ⟨HCC.out _ hb2, ?_⟩
      simp only [List.setIfInBounds_toArray, List.set_cons_zero, List.set_cons_succ]
      refine nany_take 19 32 (.agg (frC m1 m2 kd (.slice a2 (n - 14) c2))) rfl rfl (by kernel_rfl) (by kernel_rfl) (by kernel_rfl) (fun _ _ _ h => h) (Or.inl ⟨by rfl, ?_⟩) (HCC.out _ hb2) ?_
      · rintro w' hS'
        go_simp
      simp only [List.setIfInBounds_toArray, List.set_cons_zero, List.set_cons_succ]
      refine nany_one 20 (by kernel_rfl) ?_
      refine nop_skip (w' := w2.setRow g (frC m1 m2 kd (.slice a2 (n - 14) c2))) rfl (by rfl) rfl (ex_store 30 _ _ rfl g (frC m1 m2 kd (.slice a2 (n - 14) c2)) rfl rfl 30 _ h2g sizeFd rfl (frC_one _ _ _ _ rfl)) ?_
      refine ⟨HCW.out _ hbw, ?_⟩
      refine nany_take 21 3 (.int .i64 0) rfl rfl (by kernel_rfl) (by kernel_rfl) (by kernel_rfl) (fun _ _ _ h => h) (Or.inl ⟨by rfl, ?_⟩) (HCW.out _ hbw) ?_
      · rintro w' hS'
        go_simp
      simp only [List.setIfInBounds_toArray, List.set_cons_zero, List.set_cons_succ]
      refine wpAnyH_done (by kernel_rfl) ?_ _
      have HY := hid hy
      have HC2 := hid hc2
      have HBW := hid hbw
      have H2G := hid h2g
      clear hy hc2 hb2 h2g hbw hS hap
      go_wp2
      refine bodyPost_ret (results_ct rfl _ _ g (frC m1 m2 kd (.slice a2 (n - 14) c2)) _ _ rfl (setRow_heap _ g _ _ _ _ H2G.out) Try.underlying30 sizeFd) rfl ⟨a2, c2, rfl, ?_, by (have hz := HC2.out; omega), by first | exact HBW.out | (have hz := HBW.out; rw [HG.out] at hz; exact hz)⟩
      refine (HY.out.keep (fun x hx hl => setRow_other w2 g x _ (fun e => ?_))).weak (fun x hx _ => Nat.le_trans HB1.out.size hx)
      have h4 := (Array.getElem?_eq_some_iff.1 H1.out).1
      subst e
      exact absurd h4 (Nat.not_lt.2 hx)
    · obtain ⟨gE, hgE⟩ : ∃ g, (v0).heap.size = g := ⟨_, rfl⟩
      obtain ⟨v1, hw1⟩ : ∃ W, W = (v0).alloc (.cells #[] 5) := ⟨_, rfl⟩
      have hb1 : Below (v0).heap.size (v0) v1 := by rw [hw1]; exact below_alloc (Below.refl _ _) (Nat.le_refl _) _
      have hx1 : Below W1.heap.size W1 v1 := (hx0).trans (hb1.mono (hx0).size)
      have hg1 : v1.heap[gE]? = some (.cells #[] 5 (0, 0)) := by rw [hw1, ← hgE]; exact alloc_new _ _
      have hge : W1.heap.size ≤ gE := by rw [← hgE]; exact (hx0).size
      refine nop_value' 28 (v := .slice (some ⟨gE, 0, none⟩) 0 0) (w' := v1) rfl (by rfl) rfl (by rw [hw1, ← hgE]; go_simp) ?_
      clear hw1 hgE
      refine ⟨HCC.out _ hx1, ?_⟩
      simp only [List.setIfInBounds_toArray, List.set_cons_zero, List.set_cons_succ]
      refine nany_one 4 (by kernel_rfl) ?_
      refine nop_callE 17 (f := 27) (args := #[.slice a6 (n - 6) (c - 6)]) (R := fun v w' => v = .agg (macC m2) ∧ Below (v1).heap.size (v1) w') rfl (by rfl) rfl (by go_simp) ((HF6.out (v1) hx1).mono (fun e w' h => ⟨_, h.1, rfl, h.2⟩)) ?_
      rintro v v2 ⟨rfl, hb2⟩
      have hx2 : Below W1.heap.size W1 v2 := (hx1).trans (hb2.mono (hx1).size)
      have hg2 : v2.heap[gE]? = some (.cells #[] 5 (0, 0)) := (hb2.block gE (Array.getElem?_eq_some_iff.1 hg1).1).trans hg1
      refine ⟨HCC.out _ hx2, ?_⟩
      simp only [List.setIfInBounds_toArray, List.set_cons_zero, List.set_cons_succ]
      obtain ⟨a2, c2, w2, hap, hy, hc2, hb2⟩ := HTW.out v2 gE hx2 hg2 hge
      have h2g := (hb2.block g (Array.getElem?_eq_some_iff.1 H1.out).1).trans H1.out
      have hbw := (setRow_mods w2 g (frC m1 m2 kd (.slice a2 (n - 14) c2))).to_below (HB1.out.trans (hb2.mono HB1.out.size)) (Nat.le_trans HB1.out.size hb2.size) (fun x hx => by rw [hx, HG.out]; exact Nat.le_refl _)
      refine nany_one 18 (by kernel_rfl) ?_
      refine nop_value' 31 (v := .slice a2 (n - 14) c2) (w' := w2) rfl (by rfl) rfl (by simp [execOp, resolve, invoke, builtin, Act.eval, hap, Result.andThen]) ?_
      refine ⟨HCC.out _ hb2, ?_⟩
      simp only [List.setIfInBounds_toArray, List.set_cons_zero, List.set_cons_succ]
      refine nany_take 19 32 (.agg (frC m1 m2 kd (.slice a2 (n - 14) c2))) rfl rfl (by kernel_rfl) (by kernel_rfl) (by kernel_rfl) (fun _ _ _ h => h) (Or.inl ⟨by rfl, ?_⟩) (HCC.out _ hb2) ?_
      · rintro w' hS'
        go_simp
      simp only [List.setIfInBounds_toArray, List.set_cons_zero, List.set_cons_succ]
      refine nany_one 20 (by kernel_rfl) ?_
      refine nop_skip (w' := w2.setRow g (frC m1 m2 kd (.slice a2 (n - 14) c2))) rfl (by rfl) rfl (ex_store 30 _ _ rfl g (frC m1 m2 kd (.slice a2 (n - 14) c2)) rfl rfl 30 _ h2g sizeFd rfl (frC_one _ _ _ _ rfl)) ?_
      refine ⟨HCW.out _ hbw, ?_⟩
      refine nany_take 21 3 (.int .i64 0) rfl rfl (by kernel_rfl) (by kernel_rfl) (by kernel_rfl) (fun _ _ _ h => h) (Or.inl ⟨by rfl, ?_⟩) (HCW.out _ hbw) ?_
      · rintro w' hS'
        go_simp
      simp only [List.setIfInBounds_toArray, List.set_cons_zero, List.set_cons_succ]
      refine wpAnyH_done (by kernel_rfl) ?_ _
      have HY := hid hy
      have HC2 := hid hc2
      have HBW := hid hbw
      have H2G := hid h2g
      clear hy hc2 hb2 h2g hbw hS hap
      go_wp2
      refine bodyPost_ret (results_ct rfl _ _ g (frC m1 m2 kd (.slice a2 (n - 14) c2)) _ _ rfl (setRow_heap _ g _ _ _ _ H2G.out) Try.underlying30 sizeFd) rfl ⟨a2, c2, rfl, ?_, by (have hz := HC2.out; omega), by first | exact HBW.out | (have hz := HBW.out; rw [HG.out] at hz; exact hz)⟩
      refine (HY.out.keep (fun x hx hl => setRow_other w2 g x _ (fun e => ?_))).weak (fun x hx _ => Nat.le_trans HB1.out.size hx)
      have h4 := (Array.getElem?_eq_some_iff.1 H1.out).1
      subst e
      exact absurd h4 (Nat.not_lt.2 hx)
  · obtain ⟨gE, hgE⟩ : ∃ g, (W1.drew).heap.size = g := ⟨_, rfl⟩
    obtain ⟨v0, hw0⟩ : ∃ W, W = (W1.drew).alloc (.cells #[] 5) := ⟨_, rfl⟩
    have hb0 : Below (W1.drew).heap.size (W1.drew) v0 := by rw [hw0]; exact below_alloc (Below.refl _ _) (Nat.le_refl _) _
    have hx0 : Below W1.heap.size W1 v0 := (hx).trans (hb0.mono (hx).size)
    have hg0 : v0.heap[gE]? = some (.cells #[] 5 (0, 0)) := by rw [hw0, ← hgE]; exact alloc_new _ _
    have hge : W1.heap.size ≤ gE := by rw [← hgE]; exact (hx).size
    refine nop_value' 28 (v := .slice (some ⟨gE, 0, none⟩) 0 0) (w' := v0) rfl (by rfl) rfl (by rw [hw0, ← hgE]; go_simp) ?_
    clear hw0 hgE
    refine ⟨HCC.out _ hx0, ?_⟩
    simp only [List.setIfInBounds_toArray, List.set_cons_zero, List.set_cons_succ]
    refine nany_one 1 (by kernel_rfl) ?_
    refine nop_callE 14 (f := 27) (args := #[.slice (some ⟨b, off, none⟩) n c]) (R := fun v w' => v = .agg (macC m1) ∧ Below (v0).heap.size (v0) w') rfl (by rfl) rfl (by go_simp) ((HF0.out (v0) hx0).mono (fun e w' h => ⟨_, h.1, rfl, h.2⟩)) ?_
    rintro v v1 ⟨rfl, hb1⟩
    have hx1 : Below W1.heap.size W1 v1 := (hx0).trans (hb1.mono (hx0).size)
    have hg1 : v1.heap[gE]? = some (.cells #[] 5 (0, 0)) := (hb1.block gE (Array.getElem?_eq_some_iff.1 hg0).1).trans hg0
    refine ⟨HCC.out _ hx1, ?_⟩
    simp only [List.setIfInBounds_toArray, List.set_cons_zero, List.set_cons_succ]
    refine nany_one 4 (by kernel_rfl) ?_
    refine nop_callE 17 (f := 27) (args := #[.slice a6 (n - 6) (c - 6)]) (R := fun v w' => v = .agg (macC m2) ∧ Below (v1).heap.size (v1) w') rfl (by rfl) rfl (by go_simp) ((HF6.out (v1) hx1).mono (fun e w' h => ⟨_, h.1, rfl, h.2⟩)) ?_
    rintro v v2 ⟨rfl, hb2⟩
    have hx2 : Below W1.heap.size W1 v2 := (hx1).trans (hb2.mono (hx1).size)
    have hg2 : v2.heap[gE]? = some (.cells #[] 5 (0, 0)) := (hb2.block gE (Array.getElem?_eq_some_iff.1 hg1).1).trans hg1
    refine ⟨HCC.out _ hx2, ?_⟩
    simp only [List.setIfInBounds_toArray, List.set_cons_zero, List.set_cons_succ]
    obtain ⟨a2, c2, w2, hap, hy, hc2, hb2⟩ := HTW.out v2 gE hx2 hg2 hge
    have h2g := (hb2.block g (Array.getElem?_eq_some_iff.1 H1.out).1).trans H1.out
    have hbw := (setRow_mods w2 g (frC m1 m2 kd (.slice a2 (n - 14) c2))).to_below (HB1.out.trans (hb2.mono HB1.out.size)) (Nat.le_trans HB1.out.size hb2.size) (fun x hx => by rw [hx, HG.out]; exact Nat.le_refl _)
    refine nany_one 18 (by kernel_rfl) ?_
    refine nop_value' 31 (v := .slice a2 (n - 14) c2) (w' := w2) rfl (by rfl) rfl (by simp [execOp, resolve, invoke, builtin, Act.eval, hap, Result.andThen]) ?_
    refine ⟨HCC.out _ hb2, ?_⟩
    simp only [List.setIfInBounds_toArray, List.set_cons_zero, List.set_cons_succ]
    refine nany_take 19 32 (.agg (frC m1 m2 kd (.slice a2 (n - 14) c2))) rfl rfl (by kernel_rfl) (by kernel_rfl) (by kernel_rfl) (fun _ _ _ h => h) (Or.inl ⟨by rfl, ?_⟩) (HCC.out _ hb2) ?_
    · rintro w' hS'
      go_simp
    simp only [List.setIfInBounds_toArray, List.set_cons_zero, List.set_cons_succ]
    refine nany_one 20 (by kernel_rfl) ?_
    refine nop_skip (w' := w2.setRow g (frC m1 m2 kd (.slice a2 (n - 14) c2))) rfl (by rfl) rfl (ex_store 30 _ _ rfl g (frC m1 m2 kd (.slice a2 (n - 14) c2)) rfl rfl 30 _ h2g sizeFd rfl (frC_one _ _ _ _ rfl)) ?_
    refine ⟨HCW.out _ hbw, ?_⟩
    refine nany_take 21 3 (.int .i64 0) rfl rfl (by kernel_rfl) (by kernel_rfl) (by kernel_rfl) (fun _ _ _ h => h) (Or.inl ⟨by rfl, ?_⟩) (HCW.out _ hbw) ?_
    · rintro w' hS'
      go_simp
    simp only [List.setIfInBounds_toArray, List.set_cons_zero, List.set_cons_succ]
    refine wpAnyH_done (by kernel_rfl) ?_ _
    have HY := hid hy
    have HC2 := hid hc2
    have HBW := hid hbw
    have H2G := hid h2g
    clear hy hc2 hb2 h2g hbw hS hap
    go_wp2
    refine bodyPost_ret (results_ct rfl _ _ g (frC m1 m2 kd (.slice a2 (n - 14) c2)) _ _ rfl (setRow_heap _ g _ _ _ _ H2G.out) Try.underlying30 sizeFd) rfl ⟨a2, c2, rfl, ?_, by (have hz := HC2.out; omega), by first | exact HBW.out | (have hz := HBW.out; rw [HG.out] at hz; exact hz)⟩
    refine (HY.out.keep (fun x hx hl => setRow_other w2 g x _ (fun e => ?_))).weak (fun x hx _ => Nat.le_trans HB1.out.size hx)
    have h4 := (Array.getElem?_eq_some_iff.1 H1.out).1
    subst e
    exact absurd h4 (Nat.not_lt.2 hx)
end Go.Proofs.Ytlflbpemjlgdiaa
