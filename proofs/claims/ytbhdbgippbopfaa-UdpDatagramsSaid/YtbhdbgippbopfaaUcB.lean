/- The document's Parse. -/
import Derived.Test.YtbhdbgippbopfaaUbB
import Derived.Test.YtbhdbgippbopfaaUcA
import Derived.Test.YtbhdbgippbopfaaPcC
namespace Go.Proofs.Ytbhdbgippbopfaa
open Go.RowKit Go.Maps
set_option linter.unusedVariables false
theorem sizeDd : (Try.prog.info? 30).map (·.size) = some 3 := by kernel_rfl
theorem go_empty (w : World) (B : Nat) (hB : B ≤ w.heap.size) : GO (w.alloc (.cells #[] 5)) B (.slice (some ⟨w.heap.size, 0, none⟩) 0 0) [] :=
  ⟨fun x hx => by simp at hx, rfl, .inr ⟨w.heap.size, 0, #[], rfl, hB, alloc_new w _, Nat.le_refl _, by unfold maxLen; omega, by simp, by simp⟩⟩
set_option maxRecDepth 100000 in
set_option maxHeartbeats 4000000 in
theorem rParse_bad1 (w : World) (s d : Int) (a : Option Addr) (n c : Nat) (l : List Int) (hn : l.length = n) (hl : n ≤ 800000) (hc : n ≤ c) (hb : Bytes w a l) (he : ¬ exE l = 0) :
    Calls Try.prog 8 #[.int .u32 s, .int .u32 d, .slice a n c] w fun e w' => e = .returned (.tuple #[.agg (dgC 0 0 (.slice none 0 0)), .int .i64 (exE l)]) ∧ Below w.heap.size w w' := by
  obtain ⟨W1, hW1, h1, b1⟩ := boxP w (dgC 0 0 (.slice none 0 0)) 30
  obtain ⟨g, hg⟩ : ∃ g, w.heap.size = g := ⟨_, rfl⟩
  rw [hg] at h1
  by_cases h8 : n < 8
  · have e0 : exE l = 11 := by unfold exE; rw [if_pos (by omega)]
    rw [e0]
    have h8i : (n : Int) < 8 := by omega
    have H1 := hid h1
    have HB1 := hid b1
    have HG := hid hg
    have HW := hW1.symm
    clear h1 b1 hW1 hn hb he e0
    go_enter Try.func8, Try.ntmps8
    go_wp2_with (refine wpList_store_row rfl 30 _ _ rfl g (dgC 0 0 (.slice none 0 0)) rfl rfl 30 _ H1.out sizeDd rfl (dgC_one _ _ _ _ _) ?_)
    refine bodyPost_ret (results_ct rfl _ _ g (dgC 0 0 (.slice none 0 0)) _ _ rfl (setRow_heap _ g _ _ _ _ H1.out) Try.underlying30 sizeDd) rfl ⟨rfl, ?_⟩
    have hbw := (setRow_mods W1 g (dgC 0 0 (.slice none 0 0))).to_below HB1.out HB1.out.size (fun x hx => by rw [hx, HG.out]; exact Nat.le_refl _)
    first | exact hbw | (rw [HG.out] at hbw; exact hbw)
  · have h8i : ¬ ((n : Int) < 8) := by omega
    have HN4 := hid (rbe_in W1 a n c l 4 hn (by omega) (by omega) (hb.later b1) 4 rfl)
    have hE : exE l = if leN l < 8 then 15 else if (n : Int) < leN l then 11 else 0 := by unfold exE; rw [if_neg (by omega), hn]
    have hL : beOf ((l.drop 4).take 2) = leN l := rfl
    rw [hL] at HN4
    generalize exE l = E at *
    generalize leN l = A at *
    have H1 := hid h1
    have HB1 := hid b1
    have HG := hid hg
    have HW := hW1.symm
    clear h1 b1 hW1 hn hb hL
    by_cases k1 : A < 8
    · rw [if_pos k1] at hE
      subst hE
      clear he
      go_enter Try.func8, Try.ntmps8
      go_wp2_with (first
        | (go_at_call 17; refine HN4.out.mono ?_; rintro e w2 ⟨rfl, hb2⟩; clear HN4; have Hw2 := hid ((hb2.block g (Array.getElem?_eq_some_iff.1 H1.out).1).trans H1.out); have HBw2 := hid (HB1.out.trans (hb2.mono HB1.out.size)); clear hb2)
        | (refine wpList_store_row rfl 30 _ _ rfl g (dgC 0 0 (.slice none 0 0)) rfl rfl 30 _ Hw2.out sizeDd rfl (dgC_one _ _ _ _ _) ?_))
      refine bodyPost_ret (results_ct rfl _ _ g (dgC 0 0 (.slice none 0 0)) _ _ rfl (setRow_heap _ g _ _ _ _ Hw2.out) Try.underlying30 sizeDd) rfl ⟨rfl, ?_⟩
      have hbw := (setRow_mods w2 g (dgC 0 0 (.slice none 0 0))).to_below HBw2.out HBw2.out.size (fun x hx => by rw [hx, HG.out]; exact Nat.le_refl _)
      first | exact hbw | (rw [HG.out] at hbw; exact hbw)
    · rw [if_neg k1] at hE
      have k2 : (n : Int) < A := Classical.byContradiction fun h => he (by rw [hE, if_neg h])
      rw [if_pos k2] at hE
      subst hE
      clear he
      go_enter Try.func8, Try.ntmps8
      go_wp2_with (first
        | (go_at_call 17; refine HN4.out.mono ?_; rintro e w2 ⟨rfl, hb2⟩; clear HN4; have Hw2 := hid ((hb2.block g (Array.getElem?_eq_some_iff.1 H1.out).1).trans H1.out); have HBw2 := hid (HB1.out.trans (hb2.mono HB1.out.size)); clear hb2)
        | (refine wpList_store_row rfl 30 _ _ rfl g (dgC 0 0 (.slice none 0 0)) rfl rfl 30 _ Hw2.out sizeDd rfl (dgC_one _ _ _ _ _) ?_))
      refine bodyPost_ret (results_ct rfl _ _ g (dgC 0 0 (.slice none 0 0)) _ _ rfl (setRow_heap _ g _ _ _ _ Hw2.out) Try.underlying30 sizeDd) rfl ⟨rfl, ?_⟩
      have hbw := (setRow_mods w2 g (dgC 0 0 (.slice none 0 0))).to_below HBw2.out HBw2.out.size (fun x hx => by rw [hx, HG.out]; exact Nat.le_refl _)
      first | exact hbw | (rw [HG.out] at hbw; exact hbw)
set_option maxRecDepth 100000 in
set_option maxHeartbeats 16000000 in
theorem rParse_ok (w : World) (s d : Int) (a : Option Addr) (n c : Nat) (l : List Int) (hs : IsU s) (hd : IsU d) (hn : l.length = n) (hl : n ≤ 70000) (hc : n ≤ c) (hb : Bytes w a l) (he : exE l = 0) (hp : toN l = 0 ∨ toN l = suN s d l) :
    Calls Try.prog 8 #[.int .u32 s, .int .u32 d, .slice a n c] w fun e w' => ∃ a2 c2, e = .returned (.tuple #[.agg (dgC (beOf ((l.drop 0).take 2)) (beOf ((l.drop 2).take 2)) (.slice a2 (daN l).length c2)), .int .i64 0]) ∧ By w' (New w) a2 (daN l) ∧ Below w.heap.size w w' := by
  obtain ⟨q0, q1, q2⟩ := exE_ok he
  obtain ⟨W1, hW1, h1, b1⟩ := boxP w (dgC 0 0 (.slice none 0 0)) 30
  obtain ⟨g, hg⟩ : ∃ g, w.heap.size = g := ⟨_, rfl⟩
  rw [hg] at h1
  obtain ⟨B1, hB1⟩ : ∃ B, W1.heap.size = B := ⟨_, rfl⟩
  have HGB := hid (show g < B1 by have := (Array.getElem?_eq_some_iff.1 h1).1; omega)
  have HWB := hid (show w.heap.size ≤ B1 by have := b1.size; omega)
  have HS1 := hid (show B1 ≤ W1.heap.size by omega)
  have HNU : Hid (∀ W, Below w.heap.size w W → ∀ at_ : Nat, at_ + 2 ≤ 8 → Calls Try.prog 17 #[.slice a n c, .int .i64 at_] W fun e w' => e = .returned (.int .i64 (beOf ((l.drop at_).take 2))) ∧ Below W.heap.size W w') := hid (fun W hW at_ h8 => rbe_in W a n c l at_ hn (by omega) (by omega) (hb.later hW) at_ rfl)
  obtain ⟨xf, hxf⟩ : ∃ x, x = beOf ((l.drop 0).take 2) := ⟨_, rfl⟩
  obtain ⟨xt, hxt⟩ : ∃ x, x = beOf ((l.drop 2).take 2) := ⟨_, rfl⟩
  obtain ⟨tol, htol⟩ : ∃ x, x = toN l := ⟨_, rfl⟩
  have bL := be_cut_bd l 4 2 hb.isB (by omega)
  have htol' : beOf ((l.drop 6).take 2) = tol := by rw [htol]; rfl
  have hL' : beOf ((l.drop 4).take 2) = leN l := rfl
  rw [hL'] at bL
  obtain ⟨data, hdata⟩ : ∃ x, x = daN l := ⟨_, rfl⟩
  obtain ⟨U, hU⟩ : ∃ x, x = suN s d l := ⟨_, rfl⟩
  obtain ⟨L, hL⟩ : ∃ x, x = leN l := ⟨_, rfl⟩
  obtain ⟨Ln, hLn⟩ : ∃ k : Nat, k = L.toNat := ⟨_, rfl⟩
  obtain ⟨nd, hnd⟩ : ∃ k : Nat, k = Ln - 8 := ⟨_, rfl⟩
  rw [← hL] at q1 q2 bL
  have hdl : data.length = nd := by rw [hdata, hnd, hLn, hL]; unfold daN; rw [← hL]; simp; omega
  obtain ⟨aL, hcutL, hcbL⟩ := cut_h a n c Ln (by omega) hc
  obtain ⟨a8, hcut8, hcb8⟩ := cut_lh a n c 8 Ln (by omega) (by omega) hc
  have hcutL' : ∀ W : World, (Instr.slice 23 (.slice a n c) none (some (.int .i64 L)) none).run Try.prog W = .ok (.slice aL Ln c) W := fun W => by
    have := hcutL W
    rw [show ((Ln : Nat) : Int) = L by omega] at this
    exact this
  have hcut8' : ∀ W : World, (Instr.slice 23 (.slice a n c) (some (.int .i64 8)) (some (.int .i64 L)) none).run Try.prog W = .ok (.slice a8 nd (c - 8)) W := fun W => by
    have := hcut8 W
    rw [show ((Ln : Nat) : Int) = L by omega, ← hnd] at this
    exact this
  have HD8 := hid (fun (W : World) (hW : Below w.heap.size w W) => show Bytes W a8 data by
    have := hcb8 W l hn (hb.later hW)
    rw [hdata]; unfold daN; rw [← hL, ← hLn]; exact this)
  have HDL := hid hdl
  have HRG := hid (show nd ≤ 70000 by omega)
  have hUb : 1 ≤ U ∧ U ≤ 65535 := by
    rw [hU]
    exact udS_bd _ _ _ (fun x hx => by
      rcases List.mem_append.1 hx with h | h
      · exact hb.isB x (List.mem_of_mem_take h)
      · exact hb.isB x (List.mem_of_mem_drop (List.mem_of_mem_take h)))
  have HSU : Hid (∀ W : World, Below w.heap.size w W → Calls Try.prog 18 #[.int .u32 s, .int .u32 d, .slice aL Ln c] W fun e w' => e = .returned (.int .u16 U) ∧ Below W.heap.size W w') := hid (fun W hW => by
    have := rsum_any W s d aL Ln c (l.take Ln) hs hd (by simp; omega) (by omega) (by omega) (by omega) (hcbL W l hn (hb.later hW))
    rw [hU]; unfold suN
    have e1 : (l.take Ln).take 6 = l.take 6 := by rw [List.take_take, Nat.min_eq_left (by omega)]
    have e2 : (l.take Ln).drop 8 = daN l := by rw [List.drop_take]; unfold daN; rw [← hL, ← hLn]
    rw [e1, e2] at this
    exact this)
  have HN4 := hid (HNU.out W1 b1 4 (by omega))
  have hL4 : beOf ((l.drop 4).take 2) = L := by rw [hL]; rfl
  rw [hL4] at HN4
  have Hxf := hid hxf.symm
  have Hxt := hid hxt.symm
  have Htol := hid htol'
  have H1 := hid h1
  have HB1 := hid b1
  have HG := hid hg
  have HW := hW1.symm
  have hwU : IntKind.i64.wrap U = U := IntWalk.i64_in _ (by omega)
  have m1 : ¬ ((n : Int) < 8) := by omega
  have m2 : ¬ (L < 8) := by omega
  have m3 : ¬ ((n : Int) < L) := by omega
  rw [← hxf, ← hxt, ← hdata, hdl]
  rw [← htol, ← hU] at hp
  clear hxf hxt htol hU hL hdata hdl
  clear h1 b1 hW1 hn hb he q0 q1 q2 bL htol' hL' hLn hnd hcutL hcut8 hcbL hcb8 hs hd hL4 hB1 hUb
  by_cases k0 : tol = 0
  · subst k0
    clear hp
    go_enter Try.func8, Try.ntmps8
    go_upto_region 11 with (first
      | (go_at_call 17; refine HN4.out.mono ?_; rintro e w2 ⟨rfl, hb2⟩; clear HN4; have Hw2 := hid ((hb2.block g (Array.getElem?_eq_some_iff.1 H1.out).1).trans H1.out); have HBw2 := hid (HB1.out.trans (hb2.mono HB1.out.size)); have HSw2 := hid (Nat.le_trans HS1.out hb2.size); have HN6 := hid (HNU.out w2 HBw2.out 6 (by omega)); rw [Htol.out] at HN6; clear hb2)
      | (go_at_call 17; refine HN6.out.mono ?_; rintro e w3 ⟨rfl, hb3⟩; clear HN6; have Hw3 := hid ((hb3.block g (Array.getElem?_eq_some_iff.1 Hw2.out).1).trans Hw2.out); have HBw3 := hid (HBw2.out.trans (hb3.mono HBw2.out.size)); have HSw3 := hid (Nat.le_trans HSw2.out hb3.size); clear hb3))
    try simp only [Act.put]
    refine wp_region_held_drew (S := fun _ => True) (by kernel_rfl) trivial (fun hS => ?_)
    obtain ⟨x0, hdx0⟩ : ∃ W, W = w3.drew := ⟨_, rfl⟩
    rw [← hdx0]
    have HBx0 := hid (show Below w.heap.size w x0 by rw [hdx0]; exact HBw3.out.drew)
    have HSx0 := hid (show B1 ≤ x0.heap.size by rw [hdx0]; exact HSw3.out)
    have Hx0 := hid (show x0.heap[g]? = some (.cells (dgC 0 0 (.slice none 0 0)) 30 (0, 0)) by rw [hdx0]; exact Hw3.out)
    clear hdx0
    refine nany_take 0 40 (.slice a n c) rfl rfl (by kernel_rfl) (by kernel_rfl) (by kernel_rfl) (fun _ _ _ h => h) (Or.inl ⟨by rfl, ?_⟩) trivial ?_
    · rintro w' -
      go_simp
    simp only [List.setIfInBounds_toArray, List.set_cons_zero, List.set_cons_succ]
    refine nany_take 2 42 (.slice a n c) rfl rfl (by kernel_rfl) (by kernel_rfl) (by kernel_rfl) (fun _ _ _ h => h) (Or.inl ⟨by rfl, ?_⟩) trivial ?_
    · rintro w' -
      go_simp
    simp only [List.setIfInBounds_toArray, List.set_cons_zero, List.set_cons_succ]
    refine nany_take 5 45 (.slice a n c) rfl rfl (by kernel_rfl) (by kernel_rfl) (by kernel_rfl) (fun _ _ _ h => h) (Or.inl ⟨by rfl, ?_⟩) trivial ?_
    · rintro w' -
      go_simp
    simp only [List.setIfInBounds_toArray, List.set_cons_zero, List.set_cons_succ]
    refine nany_take 6 46 (.int .i64 L) rfl rfl (by kernel_rfl) (by kernel_rfl) (by kernel_rfl) (fun _ _ _ h => h) (Or.inl ⟨by rfl, ?_⟩) trivial ?_
    · rintro w' -
      go_simp
    simp only [List.setIfInBounds_toArray, List.set_cons_zero, List.set_cons_succ]
    refine nany_take 7 47 (.slice a8 nd (c - 8)) rfl rfl (by kernel_rfl) (by kernel_rfl) (by kernel_rfl) (fun _ _ _ h => h) (Or.inl ⟨by rfl, ?_⟩) trivial ?_
    · rintro w' -
      go_simp
    simp only [List.setIfInBounds_toArray, List.set_cons_zero, List.set_cons_succ]
    refine nany_two 1 4 (by kernel_rfl) ?_ ?_
    · refine nop_callE 41 (f := 17) (args := #[.slice a n c, .int .i64 0]) (R := fun v w' => v = .int .i64 xf ∧ Below x0.heap.size x0 w') rfl (by rfl) rfl (by go_simp) ((HNU.out x0 HBx0.out 0 (by omega)).mono (fun e w' h => ⟨_, h.1.trans (by rw [Hxf.out]), rfl, h.2⟩)) ?_
      rintro v x1 ⟨rfl, hbx1⟩
      refine ⟨trivial, ?_⟩
      simp only [List.setIfInBounds_toArray, List.set_cons_zero, List.set_cons_succ]
      have HBx1 := hid (HBx0.out.trans (hbx1.mono HBx0.out.size))
      have HSx1 := hid (Nat.le_trans HSx0.out hbx1.size)
      have Hx1 := hid ((hbx1.block g (Array.getElem?_eq_some_iff.1 Hx0.out).1).trans Hx0.out)
      clear hbx1
      refine nany_two 3 4 (by kernel_rfl) ?_ ?_
      · refine nop_callE 43 (f := 17) (args := #[.slice a n c, .int .i64 2]) (R := fun v w' => v = .int .i64 xt ∧ Below x1.heap.size x1 w') rfl (by rfl) rfl (by go_simp) ((HNU.out x1 HBx1.out 2 (by omega)).mono (fun e w' h => ⟨_, h.1.trans (by rw [Hxt.out]), rfl, h.2⟩)) ?_
        rintro v x2 ⟨rfl, hbx2⟩
        refine ⟨trivial, ?_⟩
        simp only [List.setIfInBounds_toArray, List.set_cons_zero, List.set_cons_succ]
        have HBx2 := hid (HBx1.out.trans (hbx2.mono HBx1.out.size))
        have HSx2 := hid (Nat.le_trans HSx1.out hbx2.size)
        have Hx2 := hid ((hbx2.block g (Array.getElem?_eq_some_iff.1 Hx1.out).1).trans Hx1.out)
        clear hbx2
        refine nany_one 4 (by kernel_rfl) ?_
        obtain ⟨x3, hx3, bx3⟩ := newW x2 (.cells #[] 5)
        refine nop_value' 44 (v := .slice (some ⟨x2.heap.size, 0, none⟩) 0 0) (w' := x3) rfl (by rfl) rfl (by rw [hx3]; go_simp) ?_
        refine ⟨trivial, ?_⟩
        simp only [List.setIfInBounds_toArray, List.set_cons_zero, List.set_cons_succ]
        have HBx3 := hid (HBx2.out.trans (bx3.mono HBx2.out.size))
        have HSx3 := hid (Nat.le_trans HSx2.out bx3.size)
        have Hx3 := hid ((bx3.block g (Array.getElem?_eq_some_iff.1 Hx2.out).1).trans Hx2.out)
        have HGx3 := hid (show GO x3 B1 (.slice (some ⟨x2.heap.size, 0, none⟩) 0 0) [] by rw [hx3]; exact go_empty x2 _ HSx2.out)
        clear hx3 bx3
        obtain ⟨a2, c2, x9, hap, hg9, hb9⟩ := HGx3.out.push rfl HSx3.out data a8 nd (c - 8) HDL.out (HD8.out x3 HBx3.out) (by have := HRG.out; omega) 23
        rw [Nat.zero_add, List.nil_append] at hg9
        rw [Nat.zero_add] at hap
        have HBx9 := hid (HBx3.out.trans (hb9.mono HWB.out))
        have Hx9 := hid ((hb9.block g HGB.out).trans Hx3.out)
        refine nany_one 8 (by kernel_rfl) ?_
        refine nop_value' 48 (v := .slice a2 nd c2) (w' := x9) rfl (by rfl) rfl (ex_append (.tmp 44) (.tmp 47) 23 rfl 23 rfl (v := .slice (some ⟨x2.heap.size, 0, none⟩) 0 0) (y := .slice a8 nd (c - 8)) rfl rfl hap) ?_
        refine ⟨trivial, ?_⟩
        simp only [List.setIfInBounds_toArray, List.set_cons_zero, List.set_cons_succ]
        refine nany_take 9 49 (.agg (dgC xf xt (.slice a2 nd c2))) rfl rfl (by kernel_rfl) (by kernel_rfl) (by kernel_rfl) (fun _ _ _ h => h) (Or.inl ⟨by rfl, ?_⟩) trivial ?_
        · rintro w' -
          go_simp
        simp only [List.setIfInBounds_toArray, List.set_cons_zero, List.set_cons_succ]
        obtain ⟨W11, hW11⟩ : ∃ W, W = x9.setRow g (dgC xf xt (.slice a2 nd c2)) := ⟨_, rfl⟩
        refine nany_one 10 (by kernel_rfl) ?_
        refine nop_skip (w' := W11) rfl (by rfl) rfl (by rw [hW11]; exact ex_store 30 _ _ rfl g (dgC xf xt (.slice a2 nd c2)) rfl rfl 30 _ Hx9.out sizeDd rfl (dgC_one _ _ _ _ _)) ?_
        refine ⟨trivial, ?_⟩
        refine nany_take 11 7 (.int .i64 0) rfl rfl (by kernel_rfl) (by kernel_rfl) (by kernel_rfl) (fun _ _ _ h => h) (Or.inl ⟨by rfl, ?_⟩) trivial ?_
        · rintro w' -
          go_simp
        simp only [List.setIfInBounds_toArray, List.set_cons_zero, List.set_cons_succ]
        refine wpAnyH_done (by kernel_rfl) ?_ _
        obtain ⟨x3, y3, e3, hc3, hy3⟩ := hg9.by_ (S := fun b => B1 ≤ b) (fun _ h => h)
        rw [HDL.out] at e3
        simp only [Value.slice.injEq, true_and] at e3
        obtain ⟨rfl, rfl⟩ := e3
        have H11 := hid (show W11.heap[g]? = some (.cells (dgC xf xt (.slice a2 nd c2)) 30 (0, 0)) by rw [hW11]; exact setRow_heap _ _ _ _ _ _ Hx9.out)
        have HB11 := hid (show Below w.heap.size w W11 by rw [hW11]; exact (setRow_mods _ _ _).to_below HBx9.out HBx9.out.size (fun x hx => by rw [hx, HG.out]; exact Nat.le_refl _))
        have HY11 := hid (show By W11 (fun b => B1 ≤ b) a2 data by rw [hW11]; exact hy3.keep (fun x hx hl => setRow_other _ _ _ _ (fun e => by have := HGB.out; rw [e] at hx; exact absurd this (Nat.not_lt.2 hx))))
        clear hW11 hS hy3 hc3 hg9 hb9 hap
        go_wp2
        refine bodyPost_ret (results_ct rfl _ _ g (dgC xf xt (.slice a2 nd c2)) _ _ rfl H11.out Try.underlying30 sizeDd) rfl ⟨a2, c2, rfl, HY11.out.weak (fun x hx _ => Nat.le_trans HWB.out hx), ?_⟩
        have h2 := HB11.out
        first | exact h2 | (rw [HG.out] at h2; exact h2)
      · obtain ⟨x2, hx2, bx2⟩ := newW x1 (.cells #[] 5)
        refine nop_value' 44 (v := .slice (some ⟨x1.heap.size, 0, none⟩) 0 0) (w' := x2) rfl (by rfl) rfl (by rw [hx2]; go_simp) ?_
        refine ⟨trivial, ?_⟩
        simp only [List.setIfInBounds_toArray, List.set_cons_zero, List.set_cons_succ]
        have HBx2 := hid (HBx1.out.trans (bx2.mono HBx1.out.size))
        have HSx2 := hid (Nat.le_trans HSx1.out bx2.size)
        have Hx2 := hid ((bx2.block g (Array.getElem?_eq_some_iff.1 Hx1.out).1).trans Hx1.out)
        have HGx2 := hid (show GO x2 B1 (.slice (some ⟨x1.heap.size, 0, none⟩) 0 0) [] by rw [hx2]; exact go_empty x1 _ HSx1.out)
        clear hx2 bx2
        refine nany_one 3 (by kernel_rfl) ?_
        refine nop_callE 43 (f := 17) (args := #[.slice a n c, .int .i64 2]) (R := fun v w' => v = .int .i64 xt ∧ Below x2.heap.size x2 w') rfl (by rfl) rfl (by go_simp) ((HNU.out x2 HBx2.out 2 (by omega)).mono (fun e w' h => ⟨_, h.1.trans (by rw [Hxt.out]), rfl, h.2⟩)) ?_
        rintro v x3 ⟨rfl, hbx3⟩
        refine ⟨trivial, ?_⟩
        simp only [List.setIfInBounds_toArray, List.set_cons_zero, List.set_cons_succ]
        have HBx3 := hid (HBx2.out.trans (hbx3.mono HBx2.out.size))
        have HSx3 := hid (Nat.le_trans HSx2.out hbx3.size)
        have Hx3 := hid ((hbx3.block g (Array.getElem?_eq_some_iff.1 Hx2.out).1).trans Hx2.out)
        have HGx3 := hid (show GO x3 B1 (.slice (some ⟨x1.heap.size, 0, none⟩) 0 0) [] from ⟨HGx2.out.1, owns_keep HGx2.out.2 (fun gg hh => hbx3.block gg (owns_lt HGx2.out.2 hh).1)⟩)
        clear hbx3
        obtain ⟨a2, c2, x9, hap, hg9, hb9⟩ := HGx3.out.push rfl HSx3.out data a8 nd (c - 8) HDL.out (HD8.out x3 HBx3.out) (by have := HRG.out; omega) 23
        rw [Nat.zero_add, List.nil_append] at hg9
        rw [Nat.zero_add] at hap
        have HBx9 := hid (HBx3.out.trans (hb9.mono HWB.out))
        have Hx9 := hid ((hb9.block g HGB.out).trans Hx3.out)
        refine nany_one 8 (by kernel_rfl) ?_
        refine nop_value' 48 (v := .slice a2 nd c2) (w' := x9) rfl (by rfl) rfl (ex_append (.tmp 44) (.tmp 47) 23 rfl 23 rfl (v := .slice (some ⟨x1.heap.size, 0, none⟩) 0 0) (y := .slice a8 nd (c - 8)) rfl rfl hap) ?_
        refine ⟨trivial, ?_⟩
        simp only [List.setIfInBounds_toArray, List.set_cons_zero, List.set_cons_succ]
        refine nany_take 9 49 (.agg (dgC xf xt (.slice a2 nd c2))) rfl rfl (by kernel_rfl) (by kernel_rfl) (by kernel_rfl) (fun _ _ _ h => h) (Or.inl ⟨by rfl, ?_⟩) trivial ?_
        · rintro w' -
          go_simp
        simp only [List.setIfInBounds_toArray, List.set_cons_zero, List.set_cons_succ]
        obtain ⟨W11, hW11⟩ : ∃ W, W = x9.setRow g (dgC xf xt (.slice a2 nd c2)) := ⟨_, rfl⟩
        refine nany_one 10 (by kernel_rfl) ?_
        refine nop_skip (w' := W11) rfl (by rfl) rfl (by rw [hW11]; exact ex_store 30 _ _ rfl g (dgC xf xt (.slice a2 nd c2)) rfl rfl 30 _ Hx9.out sizeDd rfl (dgC_one _ _ _ _ _)) ?_
        refine ⟨trivial, ?_⟩
        refine nany_take 11 7 (.int .i64 0) rfl rfl (by kernel_rfl) (by kernel_rfl) (by kernel_rfl) (fun _ _ _ h => h) (Or.inl ⟨by rfl, ?_⟩) trivial ?_
        · rintro w' -
          go_simp
        simp only [List.setIfInBounds_toArray, List.set_cons_zero, List.set_cons_succ]
        refine wpAnyH_done (by kernel_rfl) ?_ _
        obtain ⟨x3, y3, e3, hc3, hy3⟩ := hg9.by_ (S := fun b => B1 ≤ b) (fun _ h => h)
        rw [HDL.out] at e3
        simp only [Value.slice.injEq, true_and] at e3
        obtain ⟨rfl, rfl⟩ := e3
        have H11 := hid (show W11.heap[g]? = some (.cells (dgC xf xt (.slice a2 nd c2)) 30 (0, 0)) by rw [hW11]; exact setRow_heap _ _ _ _ _ _ Hx9.out)
        have HB11 := hid (show Below w.heap.size w W11 by rw [hW11]; exact (setRow_mods _ _ _).to_below HBx9.out HBx9.out.size (fun x hx => by rw [hx, HG.out]; exact Nat.le_refl _))
        have HY11 := hid (show By W11 (fun b => B1 ≤ b) a2 data by rw [hW11]; exact hy3.keep (fun x hx hl => setRow_other _ _ _ _ (fun e => by have := HGB.out; rw [e] at hx; exact absurd this (Nat.not_lt.2 hx))))
        clear hW11 hS hy3 hc3 hg9 hb9 hap
        go_wp2
        refine bodyPost_ret (results_ct rfl _ _ g (dgC xf xt (.slice a2 nd c2)) _ _ rfl H11.out Try.underlying30 sizeDd) rfl ⟨a2, c2, rfl, HY11.out.weak (fun x hx _ => Nat.le_trans HWB.out hx), ?_⟩
        have h2 := HB11.out
        first | exact h2 | (rw [HG.out] at h2; exact h2)
    · obtain ⟨x1, hx1, bx1⟩ := newW x0 (.cells #[] 5)
      refine nop_value' 44 (v := .slice (some ⟨x0.heap.size, 0, none⟩) 0 0) (w' := x1) rfl (by rfl) rfl (by rw [hx1]; go_simp) ?_
      refine ⟨trivial, ?_⟩
      simp only [List.setIfInBounds_toArray, List.set_cons_zero, List.set_cons_succ]
      have HBx1 := hid (HBx0.out.trans (bx1.mono HBx0.out.size))
      have HSx1 := hid (Nat.le_trans HSx0.out bx1.size)
      have Hx1 := hid ((bx1.block g (Array.getElem?_eq_some_iff.1 Hx0.out).1).trans Hx0.out)
      have HGx1 := hid (show GO x1 B1 (.slice (some ⟨x0.heap.size, 0, none⟩) 0 0) [] by rw [hx1]; exact go_empty x0 _ HSx0.out)
      clear hx1 bx1
      refine nany_one 1 (by kernel_rfl) ?_
      refine nop_callE 41 (f := 17) (args := #[.slice a n c, .int .i64 0]) (R := fun v w' => v = .int .i64 xf ∧ Below x1.heap.size x1 w') rfl (by rfl) rfl (by go_simp) ((HNU.out x1 HBx1.out 0 (by omega)).mono (fun e w' h => ⟨_, h.1.trans (by rw [Hxf.out]), rfl, h.2⟩)) ?_
      rintro v x2 ⟨rfl, hbx2⟩
      refine ⟨trivial, ?_⟩
      simp only [List.setIfInBounds_toArray, List.set_cons_zero, List.set_cons_succ]
      have HBx2 := hid (HBx1.out.trans (hbx2.mono HBx1.out.size))
      have HSx2 := hid (Nat.le_trans HSx1.out hbx2.size)
      have Hx2 := hid ((hbx2.block g (Array.getElem?_eq_some_iff.1 Hx1.out).1).trans Hx1.out)
      have HGx2 := hid (show GO x2 B1 (.slice (some ⟨x0.heap.size, 0, none⟩) 0 0) [] from ⟨HGx1.out.1, owns_keep HGx1.out.2 (fun gg hh => hbx2.block gg (owns_lt HGx1.out.2 hh).1)⟩)
      clear hbx2
      refine nany_one 3 (by kernel_rfl) ?_
      refine nop_callE 43 (f := 17) (args := #[.slice a n c, .int .i64 2]) (R := fun v w' => v = .int .i64 xt ∧ Below x2.heap.size x2 w') rfl (by rfl) rfl (by go_simp) ((HNU.out x2 HBx2.out 2 (by omega)).mono (fun e w' h => ⟨_, h.1.trans (by rw [Hxt.out]), rfl, h.2⟩)) ?_
      rintro v x3 ⟨rfl, hbx3⟩
      refine ⟨trivial, ?_⟩
      simp only [List.setIfInBounds_toArray, List.set_cons_zero, List.set_cons_succ]
      have HBx3 := hid (HBx2.out.trans (hbx3.mono HBx2.out.size))
      have HSx3 := hid (Nat.le_trans HSx2.out hbx3.size)
      have Hx3 := hid ((hbx3.block g (Array.getElem?_eq_some_iff.1 Hx2.out).1).trans Hx2.out)
      have HGx3 := hid (show GO x3 B1 (.slice (some ⟨x0.heap.size, 0, none⟩) 0 0) [] from ⟨HGx2.out.1, owns_keep HGx2.out.2 (fun gg hh => hbx3.block gg (owns_lt HGx2.out.2 hh).1)⟩)
      clear hbx3
      obtain ⟨a2, c2, x9, hap, hg9, hb9⟩ := HGx3.out.push rfl HSx3.out data a8 nd (c - 8) HDL.out (HD8.out x3 HBx3.out) (by have := HRG.out; omega) 23
      rw [Nat.zero_add, List.nil_append] at hg9
      rw [Nat.zero_add] at hap
      have HBx9 := hid (HBx3.out.trans (hb9.mono HWB.out))
      have Hx9 := hid ((hb9.block g HGB.out).trans Hx3.out)
      refine nany_one 8 (by kernel_rfl) ?_
      refine nop_value' 48 (v := .slice a2 nd c2) (w' := x9) rfl (by rfl) rfl (ex_append (.tmp 44) (.tmp 47) 23 rfl 23 rfl (v := .slice (some ⟨x0.heap.size, 0, none⟩) 0 0) (y := .slice a8 nd (c - 8)) rfl rfl hap) ?_
      refine ⟨trivial, ?_⟩
      simp only [List.setIfInBounds_toArray, List.set_cons_zero, List.set_cons_succ]
      refine nany_take 9 49 (.agg (dgC xf xt (.slice a2 nd c2))) rfl rfl (by kernel_rfl) (by kernel_rfl) (by kernel_rfl) (fun _ _ _ h => h) (Or.inl ⟨by rfl, ?_⟩) trivial ?_
      · rintro w' -
        go_simp
      simp only [List.setIfInBounds_toArray, List.set_cons_zero, List.set_cons_succ]
      obtain ⟨W11, hW11⟩ : ∃ W, W = x9.setRow g (dgC xf xt (.slice a2 nd c2)) := ⟨_, rfl⟩
      refine nany_one 10 (by kernel_rfl) ?_
      refine nop_skip (w' := W11) rfl (by rfl) rfl (by rw [hW11]; exact ex_store 30 _ _ rfl g (dgC xf xt (.slice a2 nd c2)) rfl rfl 30 _ Hx9.out sizeDd rfl (dgC_one _ _ _ _ _)) ?_
      refine ⟨trivial, ?_⟩
      refine nany_take 11 7 (.int .i64 0) rfl rfl (by kernel_rfl) (by kernel_rfl) (by kernel_rfl) (fun _ _ _ h => h) (Or.inl ⟨by rfl, ?_⟩) trivial ?_
      · rintro w' -
        go_simp
      simp only [List.setIfInBounds_toArray, List.set_cons_zero, List.set_cons_succ]
      refine wpAnyH_done (by kernel_rfl) ?_ _
      obtain ⟨x3, y3, e3, hc3, hy3⟩ := hg9.by_ (S := fun b => B1 ≤ b) (fun _ h => h)
      rw [HDL.out] at e3
      simp only [Value.slice.injEq, true_and] at e3
      obtain ⟨rfl, rfl⟩ := e3
      have H11 := hid (show W11.heap[g]? = some (.cells (dgC xf xt (.slice a2 nd c2)) 30 (0, 0)) by rw [hW11]; exact setRow_heap _ _ _ _ _ _ Hx9.out)
      have HB11 := hid (show Below w.heap.size w W11 by rw [hW11]; exact (setRow_mods _ _ _).to_below HBx9.out HBx9.out.size (fun x hx => by rw [hx, HG.out]; exact Nat.le_refl _))
      have HY11 := hid (show By W11 (fun b => B1 ≤ b) a2 data by rw [hW11]; exact hy3.keep (fun x hx hl => setRow_other _ _ _ _ (fun e => by have := HGB.out; rw [e] at hx; exact absurd this (Nat.not_lt.2 hx))))
      clear hW11 hS hy3 hc3 hg9 hb9 hap
      go_wp2
      refine bodyPost_ret (results_ct rfl _ _ g (dgC xf xt (.slice a2 nd c2)) _ _ rfl H11.out Try.underlying30 sizeDd) rfl ⟨a2, c2, rfl, HY11.out.weak (fun x hx _ => Nat.le_trans HWB.out hx), ?_⟩
      have h2 := HB11.out
      first | exact h2 | (rw [HG.out] at h2; exact h2)
  · obtain rfl : tol = U := by rcases hp with h | h; exact absurd h k0; exact h
    have k0b : (tol != 0) = true := bne_iff_ne.2 k0
    clear hp k0
    go_enter Try.func8, Try.ntmps8
    go_upto_region 11 with (first
      | (go_at_call 17; refine HN4.out.mono ?_; rintro e w2 ⟨rfl, hb2⟩; clear HN4; have Hw2 := hid ((hb2.block g (Array.getElem?_eq_some_iff.1 H1.out).1).trans H1.out); have HBw2 := hid (HB1.out.trans (hb2.mono HB1.out.size)); have HSw2 := hid (Nat.le_trans HS1.out hb2.size); have HN6 := hid (HNU.out w2 HBw2.out 6 (by omega)); rw [Htol.out] at HN6; clear hb2)
      | (go_at_call 17; refine HN6.out.mono ?_; rintro e w3 ⟨rfl, hb3⟩; clear HN6; have Hw3 := hid ((hb3.block g (Array.getElem?_eq_some_iff.1 Hw2.out).1).trans Hw2.out); have HBw3 := hid (HBw2.out.trans (hb3.mono HBw2.out.size)); have HSw3 := hid (Nat.le_trans HSw2.out hb3.size); clear hb3)
      | (go_at_call 18; refine (HSU.out w3 HBw3.out).mono ?_; rintro e w4 ⟨rfl, hb4⟩; have Hw4 := hid ((hb4.block g (Array.getElem?_eq_some_iff.1 Hw3.out).1).trans Hw3.out); have HBw4 := hid (HBw3.out.trans (hb4.mono HBw3.out.size)); have HSw4 := hid (Nat.le_trans HSw3.out hb4.size); clear hb4))
    try simp only [Act.put]
    refine wp_region_held_drew (S := fun _ => True) (by kernel_rfl) trivial (fun hS => ?_)
    obtain ⟨x0, hdx0⟩ : ∃ W, W = w4.drew := ⟨_, rfl⟩
    rw [← hdx0]
    have HBx0 := hid (show Below w.heap.size w x0 by rw [hdx0]; exact HBw4.out.drew)
    have HSx0 := hid (show B1 ≤ x0.heap.size by rw [hdx0]; exact HSw4.out)
    have Hx0 := hid (show x0.heap[g]? = some (.cells (dgC 0 0 (.slice none 0 0)) 30 (0, 0)) by rw [hdx0]; exact Hw4.out)
    clear hdx0
    refine nany_take 0 40 (.slice a n c) rfl rfl (by kernel_rfl) (by kernel_rfl) (by kernel_rfl) (fun _ _ _ h => h) (Or.inl ⟨by rfl, ?_⟩) trivial ?_
    · rintro w' -
      go_simp
    simp only [List.setIfInBounds_toArray, List.set_cons_zero, List.set_cons_succ]
    refine nany_take 2 42 (.slice a n c) rfl rfl (by kernel_rfl) (by kernel_rfl) (by kernel_rfl) (fun _ _ _ h => h) (Or.inl ⟨by rfl, ?_⟩) trivial ?_
    · rintro w' -
      go_simp
    simp only [List.setIfInBounds_toArray, List.set_cons_zero, List.set_cons_succ]
    refine nany_take 5 45 (.slice a n c) rfl rfl (by kernel_rfl) (by kernel_rfl) (by kernel_rfl) (fun _ _ _ h => h) (Or.inl ⟨by rfl, ?_⟩) trivial ?_
    · rintro w' -
      go_simp
    simp only [List.setIfInBounds_toArray, List.set_cons_zero, List.set_cons_succ]
    refine nany_take 6 46 (.int .i64 L) rfl rfl (by kernel_rfl) (by kernel_rfl) (by kernel_rfl) (fun _ _ _ h => h) (Or.inl ⟨by rfl, ?_⟩) trivial ?_
    · rintro w' -
      go_simp
    simp only [List.setIfInBounds_toArray, List.set_cons_zero, List.set_cons_succ]
    refine nany_take 7 47 (.slice a8 nd (c - 8)) rfl rfl (by kernel_rfl) (by kernel_rfl) (by kernel_rfl) (fun _ _ _ h => h) (Or.inl ⟨by rfl, ?_⟩) trivial ?_
    · rintro w' -
      go_simp
    simp only [List.setIfInBounds_toArray, List.set_cons_zero, List.set_cons_succ]
    refine nany_two 1 4 (by kernel_rfl) ?_ ?_
    · refine nop_callE 41 (f := 17) (args := #[.slice a n c, .int .i64 0]) (R := fun v w' => v = .int .i64 xf ∧ Below x0.heap.size x0 w') rfl (by rfl) rfl (by go_simp) ((HNU.out x0 HBx0.out 0 (by omega)).mono (fun e w' h => ⟨_, h.1.trans (by rw [Hxf.out]), rfl, h.2⟩)) ?_
      rintro v x1 ⟨rfl, hbx1⟩
      refine ⟨trivial, ?_⟩
      simp only [List.setIfInBounds_toArray, List.set_cons_zero, List.set_cons_succ]
      have HBx1 := hid (HBx0.out.trans (hbx1.mono HBx0.out.size))
      have HSx1 := hid (Nat.le_trans HSx0.out hbx1.size)
      have Hx1 := hid ((hbx1.block g (Array.getElem?_eq_some_iff.1 Hx0.out).1).trans Hx0.out)
      clear hbx1
      refine nany_two 3 4 (by kernel_rfl) ?_ ?_
      · refine nop_callE 43 (f := 17) (args := #[.slice a n c, .int .i64 2]) (R := fun v w' => v = .int .i64 xt ∧ Below x1.heap.size x1 w') rfl (by rfl) rfl (by go_simp) ((HNU.out x1 HBx1.out 2 (by omega)).mono (fun e w' h => ⟨_, h.1.trans (by rw [Hxt.out]), rfl, h.2⟩)) ?_
        rintro v x2 ⟨rfl, hbx2⟩
        refine ⟨trivial, ?_⟩
        simp only [List.setIfInBounds_toArray, List.set_cons_zero, List.set_cons_succ]
        have HBx2 := hid (HBx1.out.trans (hbx2.mono HBx1.out.size))
        have HSx2 := hid (Nat.le_trans HSx1.out hbx2.size)
        have Hx2 := hid ((hbx2.block g (Array.getElem?_eq_some_iff.1 Hx1.out).1).trans Hx1.out)
        clear hbx2
        refine nany_one 4 (by kernel_rfl) ?_
        obtain ⟨x3, hx3, bx3⟩ := newW x2 (.cells #[] 5)
        refine nop_value' 44 (v := .slice (some ⟨x2.heap.size, 0, none⟩) 0 0) (w' := x3) rfl (by rfl) rfl (by rw [hx3]; go_simp) ?_
        refine ⟨trivial, ?_⟩
        simp only [List.setIfInBounds_toArray, List.set_cons_zero, List.set_cons_succ]
        have HBx3 := hid (HBx2.out.trans (bx3.mono HBx2.out.size))
        have HSx3 := hid (Nat.le_trans HSx2.out bx3.size)
        have Hx3 := hid ((bx3.block g (Array.getElem?_eq_some_iff.1 Hx2.out).1).trans Hx2.out)
        have HGx3 := hid (show GO x3 B1 (.slice (some ⟨x2.heap.size, 0, none⟩) 0 0) [] by rw [hx3]; exact go_empty x2 _ HSx2.out)
        clear hx3 bx3
        obtain ⟨a2, c2, x9, hap, hg9, hb9⟩ := HGx3.out.push rfl HSx3.out data a8 nd (c - 8) HDL.out (HD8.out x3 HBx3.out) (by have := HRG.out; omega) 23
        rw [Nat.zero_add, List.nil_append] at hg9
        rw [Nat.zero_add] at hap
        have HBx9 := hid (HBx3.out.trans (hb9.mono HWB.out))
        have Hx9 := hid ((hb9.block g HGB.out).trans Hx3.out)
        refine nany_one 8 (by kernel_rfl) ?_
        refine nop_value' 48 (v := .slice a2 nd c2) (w' := x9) rfl (by rfl) rfl (ex_append (.tmp 44) (.tmp 47) 23 rfl 23 rfl (v := .slice (some ⟨x2.heap.size, 0, none⟩) 0 0) (y := .slice a8 nd (c - 8)) rfl rfl hap) ?_
        refine ⟨trivial, ?_⟩
        simp only [List.setIfInBounds_toArray, List.set_cons_zero, List.set_cons_succ]
        refine nany_take 9 49 (.agg (dgC xf xt (.slice a2 nd c2))) rfl rfl (by kernel_rfl) (by kernel_rfl) (by kernel_rfl) (fun _ _ _ h => h) (Or.inl ⟨by rfl, ?_⟩) trivial ?_
        · rintro w' -
          go_simp
        simp only [List.setIfInBounds_toArray, List.set_cons_zero, List.set_cons_succ]
        obtain ⟨W11, hW11⟩ : ∃ W, W = x9.setRow g (dgC xf xt (.slice a2 nd c2)) := ⟨_, rfl⟩
        refine nany_one 10 (by kernel_rfl) ?_
        refine nop_skip (w' := W11) rfl (by rfl) rfl (by rw [hW11]; exact ex_store 30 _ _ rfl g (dgC xf xt (.slice a2 nd c2)) rfl rfl 30 _ Hx9.out sizeDd rfl (dgC_one _ _ _ _ _)) ?_
        refine ⟨trivial, ?_⟩
        refine nany_take 11 7 (.int .i64 0) rfl rfl (by kernel_rfl) (by kernel_rfl) (by kernel_rfl) (fun _ _ _ h => h) (Or.inl ⟨by rfl, ?_⟩) trivial ?_
        · rintro w' -
          go_simp
        simp only [List.setIfInBounds_toArray, List.set_cons_zero, List.set_cons_succ]
        refine wpAnyH_done (by kernel_rfl) ?_ _
        obtain ⟨x3, y3, e3, hc3, hy3⟩ := hg9.by_ (S := fun b => B1 ≤ b) (fun _ h => h)
        rw [HDL.out] at e3
        simp only [Value.slice.injEq, true_and] at e3
        obtain ⟨rfl, rfl⟩ := e3
        have H11 := hid (show W11.heap[g]? = some (.cells (dgC xf xt (.slice a2 nd c2)) 30 (0, 0)) by rw [hW11]; exact setRow_heap _ _ _ _ _ _ Hx9.out)
        have HB11 := hid (show Below w.heap.size w W11 by rw [hW11]; exact (setRow_mods _ _ _).to_below HBx9.out HBx9.out.size (fun x hx => by rw [hx, HG.out]; exact Nat.le_refl _))
        have HY11 := hid (show By W11 (fun b => B1 ≤ b) a2 data by rw [hW11]; exact hy3.keep (fun x hx hl => setRow_other _ _ _ _ (fun e => by have := HGB.out; rw [e] at hx; exact absurd this (Nat.not_lt.2 hx))))
        clear hW11 hS hy3 hc3 hg9 hb9 hap
        go_wp2
        refine bodyPost_ret (results_ct rfl _ _ g (dgC xf xt (.slice a2 nd c2)) _ _ rfl H11.out Try.underlying30 sizeDd) rfl ⟨a2, c2, rfl, HY11.out.weak (fun x hx _ => Nat.le_trans HWB.out hx), ?_⟩
        have h2 := HB11.out
        first | exact h2 | (rw [HG.out] at h2; exact h2)
      · obtain ⟨x2, hx2, bx2⟩ := newW x1 (.cells #[] 5)
        refine nop_value' 44 (v := .slice (some ⟨x1.heap.size, 0, none⟩) 0 0) (w' := x2) rfl (by rfl) rfl (by rw [hx2]; go_simp) ?_
        refine ⟨trivial, ?_⟩
        simp only [List.setIfInBounds_toArray, List.set_cons_zero, List.set_cons_succ]
        have HBx2 := hid (HBx1.out.trans (bx2.mono HBx1.out.size))
        have HSx2 := hid (Nat.le_trans HSx1.out bx2.size)
        have Hx2 := hid ((bx2.block g (Array.getElem?_eq_some_iff.1 Hx1.out).1).trans Hx1.out)
        have HGx2 := hid (show GO x2 B1 (.slice (some ⟨x1.heap.size, 0, none⟩) 0 0) [] by rw [hx2]; exact go_empty x1 _ HSx1.out)
        clear hx2 bx2
        refine nany_one 3 (by kernel_rfl) ?_
        refine nop_callE 43 (f := 17) (args := #[.slice a n c, .int .i64 2]) (R := fun v w' => v = .int .i64 xt ∧ Below x2.heap.size x2 w') rfl (by rfl) rfl (by go_simp) ((HNU.out x2 HBx2.out 2 (by omega)).mono (fun e w' h => ⟨_, h.1.trans (by rw [Hxt.out]), rfl, h.2⟩)) ?_
        rintro v x3 ⟨rfl, hbx3⟩
        refine ⟨trivial, ?_⟩
        simp only [List.setIfInBounds_toArray, List.set_cons_zero, List.set_cons_succ]
        have HBx3 := hid (HBx2.out.trans (hbx3.mono HBx2.out.size))
        have HSx3 := hid (Nat.le_trans HSx2.out hbx3.size)
        have Hx3 := hid ((hbx3.block g (Array.getElem?_eq_some_iff.1 Hx2.out).1).trans Hx2.out)
        have HGx3 := hid (show GO x3 B1 (.slice (some ⟨x1.heap.size, 0, none⟩) 0 0) [] from ⟨HGx2.out.1, owns_keep HGx2.out.2 (fun gg hh => hbx3.block gg (owns_lt HGx2.out.2 hh).1)⟩)
        clear hbx3
        obtain ⟨a2, c2, x9, hap, hg9, hb9⟩ := HGx3.out.push rfl HSx3.out data a8 nd (c - 8) HDL.out (HD8.out x3 HBx3.out) (by have := HRG.out; omega) 23
        rw [Nat.zero_add, List.nil_append] at hg9
        rw [Nat.zero_add] at hap
        have HBx9 := hid (HBx3.out.trans (hb9.mono HWB.out))
        have Hx9 := hid ((hb9.block g HGB.out).trans Hx3.out)
        refine nany_one 8 (by kernel_rfl) ?_
        refine nop_value' 48 (v := .slice a2 nd c2) (w' := x9) rfl (by rfl) rfl (ex_append (.tmp 44) (.tmp 47) 23 rfl 23 rfl (v := .slice (some ⟨x1.heap.size, 0, none⟩) 0 0) (y := .slice a8 nd (c - 8)) rfl rfl hap) ?_
        refine ⟨trivial, ?_⟩
        simp only [List.setIfInBounds_toArray, List.set_cons_zero, List.set_cons_succ]
        refine nany_take 9 49 (.agg (dgC xf xt (.slice a2 nd c2))) rfl rfl (by kernel_rfl) (by kernel_rfl) (by kernel_rfl) (fun _ _ _ h => h) (Or.inl ⟨by rfl, ?_⟩) trivial ?_
        · rintro w' -
          go_simp
        simp only [List.setIfInBounds_toArray, List.set_cons_zero, List.set_cons_succ]
        obtain ⟨W11, hW11⟩ : ∃ W, W = x9.setRow g (dgC xf xt (.slice a2 nd c2)) := ⟨_, rfl⟩
        refine nany_one 10 (by kernel_rfl) ?_
        refine nop_skip (w' := W11) rfl (by rfl) rfl (by rw [hW11]; exact ex_store 30 _ _ rfl g (dgC xf xt (.slice a2 nd c2)) rfl rfl 30 _ Hx9.out sizeDd rfl (dgC_one _ _ _ _ _)) ?_
        refine ⟨trivial, ?_⟩
        refine nany_take 11 7 (.int .i64 0) rfl rfl (by kernel_rfl) (by kernel_rfl) (by kernel_rfl) (fun _ _ _ h => h) (Or.inl ⟨by rfl, ?_⟩) trivial ?_
        · rintro w' -
          go_simp
        simp only [List.setIfInBounds_toArray, List.set_cons_zero, List.set_cons_succ]
        refine wpAnyH_done (by kernel_rfl) ?_ _
        obtain ⟨x3, y3, e3, hc3, hy3⟩ := hg9.by_ (S := fun b => B1 ≤ b) (fun _ h => h)
        rw [HDL.out] at e3
        simp only [Value.slice.injEq, true_and] at e3
        obtain ⟨rfl, rfl⟩ := e3
        have H11 := hid (show W11.heap[g]? = some (.cells (dgC xf xt (.slice a2 nd c2)) 30 (0, 0)) by rw [hW11]; exact setRow_heap _ _ _ _ _ _ Hx9.out)
        have HB11 := hid (show Below w.heap.size w W11 by rw [hW11]; exact (setRow_mods _ _ _).to_below HBx9.out HBx9.out.size (fun x hx => by rw [hx, HG.out]; exact Nat.le_refl _))
        have HY11 := hid (show By W11 (fun b => B1 ≤ b) a2 data by rw [hW11]; exact hy3.keep (fun x hx hl => setRow_other _ _ _ _ (fun e => by have := HGB.out; rw [e] at hx; exact absurd this (Nat.not_lt.2 hx))))
        clear hW11 hS hy3 hc3 hg9 hb9 hap
        go_wp2
        refine bodyPost_ret (results_ct rfl _ _ g (dgC xf xt (.slice a2 nd c2)) _ _ rfl H11.out Try.underlying30 sizeDd) rfl ⟨a2, c2, rfl, HY11.out.weak (fun x hx _ => Nat.le_trans HWB.out hx), ?_⟩
        have h2 := HB11.out
        first | exact h2 | (rw [HG.out] at h2; exact h2)
    · obtain ⟨x1, hx1, bx1⟩ := newW x0 (.cells #[] 5)
      refine nop_value' 44 (v := .slice (some ⟨x0.heap.size, 0, none⟩) 0 0) (w' := x1) rfl (by rfl) rfl (by rw [hx1]; go_simp) ?_
      refine ⟨trivial, ?_⟩
      simp only [List.setIfInBounds_toArray, List.set_cons_zero, List.set_cons_succ]
      have HBx1 := hid (HBx0.out.trans (bx1.mono HBx0.out.size))
      have HSx1 := hid (Nat.le_trans HSx0.out bx1.size)
      have Hx1 := hid ((bx1.block g (Array.getElem?_eq_some_iff.1 Hx0.out).1).trans Hx0.out)
      have HGx1 := hid (show GO x1 B1 (.slice (some ⟨x0.heap.size, 0, none⟩) 0 0) [] by rw [hx1]; exact go_empty x0 _ HSx0.out)
      clear hx1 bx1
      refine nany_one 1 (by kernel_rfl) ?_
      refine nop_callE 41 (f := 17) (args := #[.slice a n c, .int .i64 0]) (R := fun v w' => v = .int .i64 xf ∧ Below x1.heap.size x1 w') rfl (by rfl) rfl (by go_simp) ((HNU.out x1 HBx1.out 0 (by omega)).mono (fun e w' h => ⟨_, h.1.trans (by rw [Hxf.out]), rfl, h.2⟩)) ?_
      rintro v x2 ⟨rfl, hbx2⟩
      refine ⟨trivial, ?_⟩
      simp only [List.setIfInBounds_toArray, List.set_cons_zero, List.set_cons_succ]
      have HBx2 := hid (HBx1.out.trans (hbx2.mono HBx1.out.size))
      have HSx2 := hid (Nat.le_trans HSx1.out hbx2.size)
      have Hx2 := hid ((hbx2.block g (Array.getElem?_eq_some_iff.1 Hx1.out).1).trans Hx1.out)
      have HGx2 := hid (show GO x2 B1 (.slice (some ⟨x0.heap.size, 0, none⟩) 0 0) [] from ⟨HGx1.out.1, owns_keep HGx1.out.2 (fun gg hh => hbx2.block gg (owns_lt HGx1.out.2 hh).1)⟩)
      clear hbx2
      refine nany_one 3 (by kernel_rfl) ?_
      refine nop_callE 43 (f := 17) (args := #[.slice a n c, .int .i64 2]) (R := fun v w' => v = .int .i64 xt ∧ Below x2.heap.size x2 w') rfl (by rfl) rfl (by go_simp) ((HNU.out x2 HBx2.out 2 (by omega)).mono (fun e w' h => ⟨_, h.1.trans (by rw [Hxt.out]), rfl, h.2⟩)) ?_
      rintro v x3 ⟨rfl, hbx3⟩
      refine ⟨trivial, ?_⟩
      simp only [List.setIfInBounds_toArray, List.set_cons_zero, List.set_cons_succ]
      have HBx3 := hid (HBx2.out.trans (hbx3.mono HBx2.out.size))
      have HSx3 := hid (Nat.le_trans HSx2.out hbx3.size)
      have Hx3 := hid ((hbx3.block g (Array.getElem?_eq_some_iff.1 Hx2.out).1).trans Hx2.out)
      have HGx3 := hid (show GO x3 B1 (.slice (some ⟨x0.heap.size, 0, none⟩) 0 0) [] from ⟨HGx2.out.1, owns_keep HGx2.out.2 (fun gg hh => hbx3.block gg (owns_lt HGx2.out.2 hh).1)⟩)
      clear hbx3
      obtain ⟨a2, c2, x9, hap, hg9, hb9⟩ := HGx3.out.push rfl HSx3.out data a8 nd (c - 8) HDL.out (HD8.out x3 HBx3.out) (by have := HRG.out; omega) 23
      rw [Nat.zero_add, List.nil_append] at hg9
      rw [Nat.zero_add] at hap
      have HBx9 := hid (HBx3.out.trans (hb9.mono HWB.out))
      have Hx9 := hid ((hb9.block g HGB.out).trans Hx3.out)
      refine nany_one 8 (by kernel_rfl) ?_
      refine nop_value' 48 (v := .slice a2 nd c2) (w' := x9) rfl (by rfl) rfl (ex_append (.tmp 44) (.tmp 47) 23 rfl 23 rfl (v := .slice (some ⟨x0.heap.size, 0, none⟩) 0 0) (y := .slice a8 nd (c - 8)) rfl rfl hap) ?_
      refine ⟨trivial, ?_⟩
      simp only [List.setIfInBounds_toArray, List.set_cons_zero, List.set_cons_succ]
      refine nany_take 9 49 (.agg (dgC xf xt (.slice a2 nd c2))) rfl rfl (by kernel_rfl) (by kernel_rfl) (by kernel_rfl) (fun _ _ _ h => h) (Or.inl ⟨by rfl, ?_⟩) trivial ?_
      · rintro w' -
        go_simp
      simp only [List.setIfInBounds_toArray, List.set_cons_zero, List.set_cons_succ]
      obtain ⟨W11, hW11⟩ : ∃ W, W = x9.setRow g (dgC xf xt (.slice a2 nd c2)) := ⟨_, rfl⟩
      refine nany_one 10 (by kernel_rfl) ?_
      refine nop_skip (w' := W11) rfl (by rfl) rfl (by rw [hW11]; exact ex_store 30 _ _ rfl g (dgC xf xt (.slice a2 nd c2)) rfl rfl 30 _ Hx9.out sizeDd rfl (dgC_one _ _ _ _ _)) ?_
      refine ⟨trivial, ?_⟩
      refine nany_take 11 7 (.int .i64 0) rfl rfl (by kernel_rfl) (by kernel_rfl) (by kernel_rfl) (fun _ _ _ h => h) (Or.inl ⟨by rfl, ?_⟩) trivial ?_
      · rintro w' -
        go_simp
      simp only [List.setIfInBounds_toArray, List.set_cons_zero, List.set_cons_succ]
      refine wpAnyH_done (by kernel_rfl) ?_ _
      obtain ⟨x3, y3, e3, hc3, hy3⟩ := hg9.by_ (S := fun b => B1 ≤ b) (fun _ h => h)
      rw [HDL.out] at e3
      simp only [Value.slice.injEq, true_and] at e3
      obtain ⟨rfl, rfl⟩ := e3
      have H11 := hid (show W11.heap[g]? = some (.cells (dgC xf xt (.slice a2 nd c2)) 30 (0, 0)) by rw [hW11]; exact setRow_heap _ _ _ _ _ _ Hx9.out)
      have HB11 := hid (show Below w.heap.size w W11 by rw [hW11]; exact (setRow_mods _ _ _).to_below HBx9.out HBx9.out.size (fun x hx => by rw [hx, HG.out]; exact Nat.le_refl _))
      have HY11 := hid (show By W11 (fun b => B1 ≤ b) a2 data by rw [hW11]; exact hy3.keep (fun x hx hl => setRow_other _ _ _ _ (fun e => by have := HGB.out; rw [e] at hx; exact absurd this (Nat.not_lt.2 hx))))
      clear hW11 hS hy3 hc3 hg9 hb9 hap
      go_wp2
      refine bodyPost_ret (results_ct rfl _ _ g (dgC xf xt (.slice a2 nd c2)) _ _ rfl H11.out Try.underlying30 sizeDd) rfl ⟨a2, c2, rfl, HY11.out.weak (fun x hx _ => Nat.le_trans HWB.out hx), ?_⟩
      have h2 := HB11.out
      first | exact h2 | (rw [HG.out] at h2; exact h2)
set_option maxRecDepth 100000 in
set_option maxHeartbeats 16000000 in
theorem rParse_bad2 (w : World) (s d : Int) (a : Option Addr) (n c : Nat) (l : List Int) (hs : IsU s) (hd : IsU d) (hn : l.length = n) (hl : n ≤ 70000) (hc : n ≤ c) (hb : Bytes w a l) (he : exE l = 0) (hp : ¬ toN l = 0 ∧ ¬ toN l = suN s d l) :
    Calls Try.prog 8 #[.int .u32 s, .int .u32 d, .slice a n c] w fun e w' => e = .returned (.tuple #[.agg (dgC 0 0 (.slice none 0 0)), .int .i64 13]) ∧ Below w.heap.size w w' := by
  obtain ⟨q0, q1, q2⟩ := exE_ok he
  obtain ⟨W1, hW1, h1, b1⟩ := boxP w (dgC 0 0 (.slice none 0 0)) 30
  obtain ⟨g, hg⟩ : ∃ g, w.heap.size = g := ⟨_, rfl⟩
  rw [hg] at h1
  obtain ⟨B1, hB1⟩ : ∃ B, W1.heap.size = B := ⟨_, rfl⟩
  have HGB := hid (show g < B1 by have := (Array.getElem?_eq_some_iff.1 h1).1; omega)
  have HWB := hid (show w.heap.size ≤ B1 by have := b1.size; omega)
  have HS1 := hid (show B1 ≤ W1.heap.size by omega)
  have HNU : Hid (∀ W, Below w.heap.size w W → ∀ at_ : Nat, at_ + 2 ≤ 8 → Calls Try.prog 17 #[.slice a n c, .int .i64 at_] W fun e w' => e = .returned (.int .i64 (beOf ((l.drop at_).take 2))) ∧ Below W.heap.size W w') := hid (fun W hW at_ h8 => rbe_in W a n c l at_ hn (by omega) (by omega) (hb.later hW) at_ rfl)
  obtain ⟨xf, hxf⟩ : ∃ x, x = beOf ((l.drop 0).take 2) := ⟨_, rfl⟩
  obtain ⟨xt, hxt⟩ : ∃ x, x = beOf ((l.drop 2).take 2) := ⟨_, rfl⟩
  obtain ⟨tol, htol⟩ : ∃ x, x = toN l := ⟨_, rfl⟩
  have bL := be_cut_bd l 4 2 hb.isB (by omega)
  have htol' : beOf ((l.drop 6).take 2) = tol := by rw [htol]; rfl
  have hL' : beOf ((l.drop 4).take 2) = leN l := rfl
  rw [hL'] at bL
  obtain ⟨data, hdata⟩ : ∃ x, x = daN l := ⟨_, rfl⟩
  obtain ⟨U, hU⟩ : ∃ x, x = suN s d l := ⟨_, rfl⟩
  obtain ⟨L, hL⟩ : ∃ x, x = leN l := ⟨_, rfl⟩
  obtain ⟨Ln, hLn⟩ : ∃ k : Nat, k = L.toNat := ⟨_, rfl⟩
  obtain ⟨nd, hnd⟩ : ∃ k : Nat, k = Ln - 8 := ⟨_, rfl⟩
  rw [← hL] at q1 q2 bL
  have hdl : data.length = nd := by rw [hdata, hnd, hLn, hL]; unfold daN; rw [← hL]; simp; omega
  obtain ⟨aL, hcutL, hcbL⟩ := cut_h a n c Ln (by omega) hc
  obtain ⟨a8, hcut8, hcb8⟩ := cut_lh a n c 8 Ln (by omega) (by omega) hc
  have hcutL' : ∀ W : World, (Instr.slice 23 (.slice a n c) none (some (.int .i64 L)) none).run Try.prog W = .ok (.slice aL Ln c) W := fun W => by
    have := hcutL W
    rw [show ((Ln : Nat) : Int) = L by omega] at this
    exact this
  have hcut8' : ∀ W : World, (Instr.slice 23 (.slice a n c) (some (.int .i64 8)) (some (.int .i64 L)) none).run Try.prog W = .ok (.slice a8 nd (c - 8)) W := fun W => by
    have := hcut8 W
    rw [show ((Ln : Nat) : Int) = L by omega, ← hnd] at this
    exact this
  have HD8 := hid (fun (W : World) (hW : Below w.heap.size w W) => show Bytes W a8 data by
    have := hcb8 W l hn (hb.later hW)
    rw [hdata]; unfold daN; rw [← hL, ← hLn]; exact this)
  have HDL := hid hdl
  have HRG := hid (show nd ≤ 70000 by omega)
  have hUb : 1 ≤ U ∧ U ≤ 65535 := by
    rw [hU]
    exact udS_bd _ _ _ (fun x hx => by
      rcases List.mem_append.1 hx with h | h
      · exact hb.isB x (List.mem_of_mem_take h)
      · exact hb.isB x (List.mem_of_mem_drop (List.mem_of_mem_take h)))
  have HSU : Hid (∀ W : World, Below w.heap.size w W → Calls Try.prog 18 #[.int .u32 s, .int .u32 d, .slice aL Ln c] W fun e w' => e = .returned (.int .u16 U) ∧ Below W.heap.size W w') := hid (fun W hW => by
    have := rsum_any W s d aL Ln c (l.take Ln) hs hd (by simp; omega) (by omega) (by omega) (by omega) (hcbL W l hn (hb.later hW))
    rw [hU]; unfold suN
    have e1 : (l.take Ln).take 6 = l.take 6 := by rw [List.take_take, Nat.min_eq_left (by omega)]
    have e2 : (l.take Ln).drop 8 = daN l := by rw [List.drop_take]; unfold daN; rw [← hL, ← hLn]
    rw [e1, e2] at this
    exact this)
  have HN4 := hid (HNU.out W1 b1 4 (by omega))
  have hL4 : beOf ((l.drop 4).take 2) = L := by rw [hL]; rfl
  rw [hL4] at HN4
  have Hxf := hid hxf.symm
  have Hxt := hid hxt.symm
  have Htol := hid htol'
  have H1 := hid h1
  have HB1 := hid b1
  have HG := hid hg
  have HW := hW1.symm
  have hwU : IntKind.i64.wrap U = U := IntWalk.i64_in _ (by omega)
  have m1 : ¬ ((n : Int) < 8) := by omega
  have m2 : ¬ (L < 8) := by omega
  have m3 : ¬ ((n : Int) < L) := by omega
  rw [← htol, ← hU] at hp
  clear hxf hxt htol hU hL hdata hdl
  clear h1 b1 hW1 hn hb he q0 q1 q2 bL htol' hL' hLn hnd hcutL hcut8 hcbL hcb8 hs hd hL4 hB1 hUb
  have k0b : (tol != 0) = true := bne_iff_ne.2 hp.1
  have k1b : (tol != U) = true := bne_iff_ne.2 hp.2
  clear hp
  go_enter Try.func8, Try.ntmps8
  go_wp2_with (first
    | (go_at_call 17; refine HN4.out.mono ?_; rintro e w2 ⟨rfl, hb2⟩; clear HN4; have Hw2 := hid ((hb2.block g (Array.getElem?_eq_some_iff.1 H1.out).1).trans H1.out); have HBw2 := hid (HB1.out.trans (hb2.mono HB1.out.size)); have HSw2 := hid (Nat.le_trans HS1.out hb2.size); have HN6 := hid (HNU.out w2 HBw2.out 6 (by omega)); rw [Htol.out] at HN6; clear hb2)
    | (go_at_call 17; refine HN6.out.mono ?_; rintro e w3 ⟨rfl, hb3⟩; clear HN6; have Hw3 := hid ((hb3.block g (Array.getElem?_eq_some_iff.1 Hw2.out).1).trans Hw2.out); have HBw3 := hid (HBw2.out.trans (hb3.mono HBw2.out.size)); have HSw3 := hid (Nat.le_trans HSw2.out hb3.size); clear hb3)
    | (go_at_call 18; refine (HSU.out w3 HBw3.out).mono ?_; rintro e w4 ⟨rfl, hb4⟩; have Hw4 := hid ((hb4.block g (Array.getElem?_eq_some_iff.1 Hw3.out).1).trans Hw3.out); have HBw4 := hid (HBw3.out.trans (hb4.mono HBw3.out.size)); have HSw4 := hid (Nat.le_trans HSw3.out hb4.size); clear hb4)
    | (refine wpList_store_row rfl 30 _ _ rfl g (dgC 0 0 (.slice none 0 0)) rfl rfl 30 _ Hw4.out sizeDd rfl (dgC_one _ _ _ _ _) ?_))
  refine bodyPost_ret (results_ct rfl _ _ g (dgC 0 0 (.slice none 0 0)) _ _ rfl (setRow_heap _ g _ _ _ _ Hw4.out) Try.underlying30 sizeDd) rfl ⟨rfl, ?_⟩
  have hbw := (setRow_mods w4 g (dgC 0 0 (.slice none 0 0))).to_below HBw4.out HBw4.out.size (fun x hx => by rw [hx, HG.out]; exact Nat.le_refl _)
  first | exact hbw | (rw [HG.out] at hbw; exact hbw)
theorem rParse_any (w : World) (s d : Int) (a : Option Addr) (n c : Nat) (l : List Int) (hs : IsU s) (hd : IsU d) (hn : l.length = n) (hl : n ≤ 70000) (hc : n ≤ c) (hb : Bytes w a l) :
    Calls Try.prog 8 #[.int .u32 s, .int .u32 d, .slice a n c] w fun e w' => ∃ a2 c2, e = .returned (.tuple #[.agg (dgC (prF s d l) (prT s d l) (.slice a2 (prD s d l).length c2)), .int .i64 (prE s d l)]) ∧ By w' (New w) a2 (prD s d l) ∧ Below w.heap.size w w' := by
  by_cases he : exE l = 0
  · by_cases hp : ¬ toN l = 0 ∧ ¬ toN l = suN s d l
    · have e0 : prE s d l = 13 := by unfold prE; rw [if_neg (not_not_intro he), if_pos hp]
      unfold prF prT prD
      rw [e0, if_neg (by omega), if_neg (by omega), if_neg (by omega)]
      refine (rParse_bad2 w s d a n c l hs hd hn hl hc hb he hp).mono ?_
      rintro e w' ⟨rfl, h3⟩
      exact ⟨none, 0, rfl, By.nil _ _ _, h3⟩
    · have e0 : prE s d l = 0 := by unfold prE; rw [if_neg (not_not_intro he), if_neg hp]
      unfold prF prT prD
      rw [e0, if_pos rfl, if_pos rfl, if_pos rfl]
      exact rParse_ok w s d a n c l hs hd hn hl hc hb he (by by_cases h : toN l = 0; exact .inl h; exact .inr (Classical.byContradiction fun h2 => hp ⟨h, h2⟩))
  · have e0 : prE s d l = exE l := by unfold prE; rw [if_pos he]
    unfold prF prT prD
    rw [e0, if_neg he, if_neg he, if_neg he]
    refine (rParse_bad1 w s d a n c l hn (by omega) hc hb he).mono ?_
    rintro e w' ⟨rfl, h3⟩
    exact ⟨none, 0, rfl, By.nil _ _ _, h3⟩
end Go.Proofs.Ytbhdbgippbopfaa
