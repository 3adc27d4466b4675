/- Package ip's Parse. -/
import Derived.Test.YtgdajplloamjcaaPbI
namespace Go.Proofs.Ytgdajplloamjcaa
open Go.RowKit Go.Maps
set_option linter.unusedVariables false
def flN (l : List Int) : Int := beOf ((l.drop 6).take 2)
def moN (l : List Int) : Bool := bits .and .i64 (flN l) 8192 != 0
def boN (l : List Int) : List Int := (l.drop (hdN l).toNat).take ((alN l).toNat - (hdN l).toNat)
def prO (l : List Int) : Pk := ⟨beOf ((l.drop 12).take 4), beOf ((l.drop 16).take 4), beOf ((l.drop 9).take 1), beOf ((l.drop 4).take 2), flN l % 8192 * 8, moN l, decide (flN l % 8192 * 8 = 0) && !moN l, beOf ((l.drop 8).take 1), boN l⟩
def prP (l : List Int) : Pk := if exE l = 0 then prO l else pk0
theorem exE_ok {l : List Int} (h : exE l = 0) : 20 ≤ l.length ∧ l.getD 0 0 / 16 = 4 ∧ 20 ≤ hdN l ∧ hdN l ≤ (l.length : Int) ∧ hdN l ≤ alN l ∧ alN l ≤ (l.length : Int) ∧ inetL (l.take (hdN l).toNat) = 0 := by
  unfold exE at h
  by_cases k0 : l.length < 20
  · rw [if_pos k0] at h; omega
  · rw [if_neg k0] at h
    by_cases k1 : l.getD 0 0 / 16 = 4
    · rw [if_neg (not_not_intro k1)] at h
      by_cases k2 : hdN l < 20
      · rw [if_pos k2] at h; omega
      · rw [if_neg k2] at h
        by_cases k3 : (l.length : Int) < hdN l
        · rw [if_pos k3] at h; omega
        · rw [if_neg k3] at h
          by_cases k4 : alN l < hdN l
          · rw [if_pos k4] at h; omega
          · rw [if_neg k4] at h
            by_cases k5 : (l.length : Int) < alN l
            · rw [if_pos k5] at h; omega
            · rw [if_neg k5] at h
              by_cases k6 : inetL (l.take (hdN l).toNat) = 0
              · exact ⟨by omega, k1, by omega, by omega, by omega, by omega, k6⟩
              · rw [if_pos k6] at h; omega
    · rw [if_pos k1] at h; omega
set_option maxRecDepth 100000 in
set_option maxHeartbeats 8000000 in
theorem Parse_bad (w : World) (a : Option Addr) (n c : Nat) (l : List Int) (hn : l.length = n) (hl : n ≤ 800000) (hc : n ≤ c) (hb : Bytes w a l) (he : ¬ exE l = 0) :
    Calls Try.prog 8 #[.slice a n c] w fun e w' => e = .returned (.tuple #[.agg (pkC 0 0 0 0 0 false false 0 (.slice none 0 0)), .int .i64 (exE l)]) ∧ Below w.heap.size w w' := by
  obtain ⟨W1, hW1, h1, b1⟩ := boxP w (pkC 0 0 0 0 0 false false 0 (.slice none 0 0)) 25
  obtain ⟨g, hg⟩ : ∃ g, w.heap.size = g := ⟨_, rfl⟩
  rw [hg] at h1
  have HEX := extent_any W1 a n c l hn hl hc (hb.later b1)
  rw [if_neg he, if_neg he] at HEX
  have hE : (exE l != 0) = true := bne_iff_ne.2 he
  generalize exE l = E at *
  have HEX := hid HEX
  have H1 := hid h1
  have HB1 := hid b1
  have HG := hid hg
  have HW := hW1.symm
  clear h1 b1 hW1 hn hb he
  go_enter Try.func8, Try.ntmps8
  go_wp2_with (first
    | (go_at_call 21; refine HEX.out.mono ?_; rintro e w2 ⟨rfl, hb2⟩; have H2 := hid ((hb2.block g (Array.getElem?_eq_some_iff.1 H1.out).1).trans H1.out); have HB2 := hid (HB1.out.trans (hb2.mono HB1.out.size)); clear hb2)
    | (refine wpList_store_row rfl 25 _ _ rfl g (pkC 0 0 0 0 0 false false 0 (.slice none 0 0)) rfl rfl 25 _ H2.out sizePk rfl (pkC_one _ _ _ _ _ _ _ _ _ rfl) ?_))
  refine bodyPost_ret (results_ct rfl _ _ g (pkC 0 0 0 0 0 false false 0 (.slice none 0 0)) _ _ rfl (setRow_heap _ g _ _ _ _ H2.out) Try.underlying25 sizePk) rfl ⟨rfl, ?_⟩
  have hbw := (setRow_mods w2 g (pkC 0 0 0 0 0 false false 0 (.slice none 0 0))).to_below HB2.out HB2.out.size (fun x hx => by rw [hx, HG.out]; exact Nat.le_refl _)
  first | exact hbw | (rw [HG.out] at hbw; exact hbw)
set_option maxRecDepth 100000 in
set_option maxHeartbeats 8000000 in
theorem Parse_ok (w : World) (a : Option Addr) (n c : Nat) (l : List Int) (hn : l.length = n) (hl : n ≤ 800000) (hc : n ≤ c) (hb : Bytes w a l) (he : exE l = 0) :
    Calls Try.prog 8 #[.slice a n c] w fun e w' => ∃ a2 c2, e = .returned (.tuple #[.agg (pkV (prO l) (.slice a2 (boN l).length c2)), .int .i64 0]) ∧ By w' (New w) a2 (boN l) ∧ (boN l).length ≤ c2 ∧ Below w.heap.size w w' := by
  obtain ⟨q0, q1, q2, q3, q4, q5, q6⟩ := exE_ok he
  obtain ⟨W1, hW1, h1, b1⟩ := boxP w (pkC 0 0 0 0 0 false false 0 (.slice none 0 0)) 25
  obtain ⟨g, hg⟩ : ∃ g, w.heap.size = g := ⟨_, rfl⟩
  rw [hg] at h1
  have HEX := extent_any W1 a n c l hn hl hc (hb.later b1)
  rw [if_pos he, if_pos he, he] at HEX
  have HNU : Hid (∀ W, Below w.heap.size w W → ∀ at_ m : Nat, (m = 1 ∨ m = 2 ∨ m = 4) → at_ + m ≤ 20 → Calls Try.prog 22 #[.slice a n c, .int .i64 at_, .int .i64 m] W fun e w' => e = .returned (.int .i64 (beOf ((l.drop at_).take m))) ∧ Below W.heap.size W w') := hid (fun W hW at_ m hm h20 => number_in W a n c l at_ m hn hc (by omega) hm (by omega) (hb.later hW) at_ m rfl rfl)
  obtain ⟨xs, hxs⟩ : ∃ x, x = beOf ((l.drop 12).take 4) := ⟨_, rfl⟩
  obtain ⟨xd, hxd⟩ : ∃ x, x = beOf ((l.drop 16).take 4) := ⟨_, rfl⟩
  obtain ⟨xp, hxp⟩ : ∃ x, x = beOf ((l.drop 9).take 1) := ⟨_, rfl⟩
  obtain ⟨xi, hxi⟩ : ∃ x, x = beOf ((l.drop 4).take 2) := ⟨_, rfl⟩
  obtain ⟨xt, hxt⟩ : ∃ x, x = beOf ((l.drop 8).take 1) := ⟨_, rfl⟩
  obtain ⟨fl, hfl⟩ : ∃ x, x = beOf ((l.drop 6).take 2) := ⟨_, rfl⟩
  have bs := be_cut_bd l 12 4 hb.isB (by omega)
  have bd := be_cut_bd l 16 4 hb.isB (by omega)
  have bf := be_cut_bd l 6 2 hb.isB (by omega)
  rw [← hxs] at bs
  rw [← hxd] at bd
  rw [← hfl] at bf
  obtain ⟨o, ho⟩ : ∃ o, o = fl % 8192 * 8 := ⟨_, rfl⟩
  obtain ⟨fb, hfb⟩ : ∃ x, x = bits .and .i64 fl 8192 := ⟨_, rfl⟩
  obtain ⟨mo, hmo⟩ : ∃ b : Bool, b = (fb != 0) := ⟨_, rfl⟩
  obtain ⟨hN, hhN⟩ : ∃ k : Nat, k = (hdN l).toNat := ⟨_, rfl⟩
  obtain ⟨aN, haN⟩ : ∃ k : Nat, k = (alN l).toNat := ⟨_, rfl⟩
  obtain ⟨hd, hhd⟩ : ∃ x, x = hdN l := ⟨_, rfl⟩
  obtain ⟨al, hal⟩ : ∃ x, x = alN l := ⟨_, rfl⟩
  obtain ⟨body, hbody⟩ : ∃ x, x = boN l := ⟨_, rfl⟩
  obtain ⟨nb, hnb⟩ : ∃ k : Nat, k = aN - hN := ⟨_, rfl⟩
  have hbl : body.length = nb := by rw [hbody, hnb, hhN, haN]; unfold boN; simp; omega
  obtain ⟨aC, hcut, hcb⟩ := cut_lh a n c hN aN (by omega) (by omega) hc
  have hcut' : ∀ W : World, (Instr.slice 22 (.slice a n c) (some (.int .i64 hd)) (some (.int .i64 al)) none).run Try.prog W = .ok (.slice aC nb (c - hN)) W := fun W => by
    have := hcut W
    rw [show ((hN : Nat) : Int) = hd by omega, show ((aN : Nat) : Int) = al by omega, ← hnb] at this
    exact this
  have HCL : Hid (∀ W, Below w.heap.size w W → Calls Try.prog 23 #[.slice aC nb (c - hN)] W fun e w' => ∃ a2 c2, e = .returned (.slice a2 nb c2) ∧ By w' (New W) a2 body ∧ nb ≤ c2 ∧ Below W.heap.size W w') := hid (fun W hW => Clone_all W aC nb (c - hN) body hbl (by omega) (by
    have := hcb W l hn (hb.later hW)
    rw [hbody]; unfold boN; rw [← hhN, ← haN]; exact this))
  have hpr : prO l = ⟨xs, xd, xp, xi, o, mo, decide (o = 0) && !mo, xt, body⟩ := by rw [hxs, hxd, hxp, hxi, hmo, hfb, ho, hxt, hbody, hfl]; rfl
  rw [hpr, ← hbody, hbl]
  dsimp only [pkV]
  rw [← hhd, ← hal] at HEX
  have Hxs := hid hxs.symm
  have Hxd := hid hxd.symm
  have Hxp := hid hxp.symm
  have Hxi := hid hxi.symm
  have Hxt := hid hxt.symm
  have Hfl := hid hfl.symm
  have HEX := hid HEX
  have H1 := hid h1
  have HB1 := hid b1
  have HG := hid hg
  have HW := hW1.symm
  have hw1 : IntKind.u32.wrap xs = xs := IntWalk.u32_in _ (by omega)
  have hw2 : IntKind.u32.wrap xd = xd := IntWalk.u32_in _ (by omega)
  have hm1 : bits .and .i64 fl 8191 = fl % 8192 := i64_and8191 fl
  have hm2 : bits .and .i64 fl 8192 = fb := hfb.symm
  have hm3 : (fb != 0) = mo := hmo.symm
  have hw3 : IntKind.i64.wrap (fl % 8192 * 8) = o := by rw [ho]; exact IntWalk.i64_in _ (by omega)
  have hw4 : fl % 8192 * 8 = o := ho.symm
  have hw5 : IntKind.i64.wrap o = o := by rw [ho]; exact IntWalk.i64_in _ (by omega)
  clear h1 b1 hW1 hn hb he q0 q1 q2 q3 q4 q5 q6 hxs hxd hxp hxi hxt hfl bs bd bf ho hfb hmo hhN haN hhd hal hbody hnb hbl hcut hcb hpr
  go_enter Try.func8, Try.ntmps8
  go_upto_region 5 with (first
    | (go_at_call 21; refine HEX.out.mono ?_; rintro e w2 ⟨rfl, hb2⟩; have H2 := hid ((hb2.block g (Array.getElem?_eq_some_iff.1 H1.out).1).trans H1.out); have HB2 := hid (HB1.out.trans (hb2.mono HB1.out.size)); clear hb2 HEX)
    | (go_at_call 22; refine (HNU.out w2 HB2.out 6 2 (by omega) (by omega)).mono ?_; rintro e w3 ⟨rfl, hb3⟩; rw [Hfl.out]; have H3 := hid ((hb3.block g (Array.getElem?_eq_some_iff.1 H2.out).1).trans H2.out); have HB3 := hid (HB2.out.trans (hb3.mono HB2.out.size)); clear hb3))
  try simp only [Act.put]
  refine wp_region_held_drew (S := fun _ => True) (by kernel_rfl) trivial (fun hS => ?_)
  obtain ⟨v0, hv0⟩ : ∃ W, W = w3.drew := ⟨_, rfl⟩
  rw [← hv0]
  have HBv0 : Hid (Below w.heap.size w v0) := hid (by rw [hv0]; exact HB3.out.drew)
  have Hv0 : Hid (v0.heap[g]? = some (.cells (pkC 0 0 0 0 0 false false 0 (.slice none 0 0)) 25 (0, 0))) := hid (by rw [hv0]; exact H3.out)
  clear hv0
  refine nany_take 0 21 (.slice a n c) rfl rfl (by kernel_rfl) (by kernel_rfl) (by kernel_rfl) (fun _ _ _ h => h) (Or.inl ⟨by rfl, ?_⟩) trivial ?_
  · rintro w' -
    go_simp
  simp only [List.setIfInBounds_toArray, List.set_cons_zero, List.set_cons_succ]
  refine nany_take 3 24 (.slice a n c) rfl rfl (by kernel_rfl) (by kernel_rfl) (by kernel_rfl) (fun _ _ _ h => h) (Or.inl ⟨by rfl, ?_⟩) trivial ?_
  · rintro w' -
    go_simp
  simp only [List.setIfInBounds_toArray, List.set_cons_zero, List.set_cons_succ]
  refine nany_take 6 27 (.slice a n c) rfl rfl (by kernel_rfl) (by kernel_rfl) (by kernel_rfl) (fun _ _ _ h => h) (Or.inl ⟨by rfl, ?_⟩) trivial ?_
  · rintro w' -
    go_simp
  simp only [List.setIfInBounds_toArray, List.set_cons_zero, List.set_cons_succ]
  refine nany_take 8 29 (.slice a n c) rfl rfl (by kernel_rfl) (by kernel_rfl) (by kernel_rfl) (fun _ _ _ h => h) (Or.inl ⟨by rfl, ?_⟩) trivial ?_
  · rintro w' -
    go_simp
  simp only [List.setIfInBounds_toArray, List.set_cons_zero, List.set_cons_succ]
  refine nany_take 10 31 (.int .i64 fl) rfl rfl (by kernel_rfl) (by kernel_rfl) (by kernel_rfl) (fun _ _ _ h => h) (Or.inl ⟨by rfl, ?_⟩) trivial ?_
  · rintro w' -
    go_simp
  simp only [List.setIfInBounds_toArray, List.set_cons_zero, List.set_cons_succ]
  refine nany_take 11 32 (.int .i64 (fl % 8192)) rfl rfl (by kernel_rfl) (by kernel_rfl) (by kernel_rfl) (fun _ _ _ h => h) (Or.inl ⟨by rfl, ?_⟩) trivial ?_
  · rintro w' -
    go_simp
  simp only [List.setIfInBounds_toArray, List.set_cons_zero, List.set_cons_succ]
  refine nany_take 12 33 (.int .i64 o) rfl rfl (by kernel_rfl) (by kernel_rfl) (by kernel_rfl) (fun _ _ _ h => h) (Or.inl ⟨by rfl, ?_⟩) trivial ?_
  · rintro w' -
    go_simp
  simp only [List.setIfInBounds_toArray, List.set_cons_zero, List.set_cons_succ]
  refine nany_take 13 34 (.int .i64 fl) rfl rfl (by kernel_rfl) (by kernel_rfl) (by kernel_rfl) (fun _ _ _ h => h) (Or.inl ⟨by rfl, ?_⟩) trivial ?_
  · rintro w' -
    go_simp
  simp only [List.setIfInBounds_toArray, List.set_cons_zero, List.set_cons_succ]
  refine nany_take 14 35 (.int .i64 fb) rfl rfl (by kernel_rfl) (by kernel_rfl) (by kernel_rfl) (fun _ _ _ h => h) (Or.inl ⟨by rfl, ?_⟩) trivial ?_
  · rintro w' -
    go_simp
  simp only [List.setIfInBounds_toArray, List.set_cons_zero, List.set_cons_succ]
  refine nany_take 15 36 (.bool mo) rfl rfl (by kernel_rfl) (by kernel_rfl) (by kernel_rfl) (fun _ _ _ h => h) (Or.inl ⟨by rfl, ?_⟩) trivial ?_
  · rintro w' -
    go_simp
  simp only [List.setIfInBounds_toArray, List.set_cons_zero, List.set_cons_succ]
  refine nany_take 16 37 (.slice a n c) rfl rfl (by kernel_rfl) (by kernel_rfl) (by kernel_rfl) (fun _ _ _ h => h) (Or.inl ⟨by rfl, ?_⟩) trivial ?_
  · rintro w' -
    go_simp
  simp only [List.setIfInBounds_toArray, List.set_cons_zero, List.set_cons_succ]
  refine nany_take 18 39 (.slice a n c) rfl rfl (by kernel_rfl) (by kernel_rfl) (by kernel_rfl) (fun _ _ _ h => h) (Or.inl ⟨by rfl, ?_⟩) trivial ?_
  · rintro w' -
    go_simp
  simp only [List.setIfInBounds_toArray, List.set_cons_zero, List.set_cons_succ]
  refine nany_take 19 40 (.int .i64 hd) rfl rfl (by kernel_rfl) (by kernel_rfl) (by kernel_rfl) (fun _ _ _ h => h) (Or.inl ⟨by rfl, ?_⟩) trivial ?_
  · rintro w' -
    go_simp
  simp only [List.setIfInBounds_toArray, List.set_cons_zero, List.set_cons_succ]
  refine nany_take 20 41 (.int .i64 al) rfl rfl (by kernel_rfl) (by kernel_rfl) (by kernel_rfl) (fun _ _ _ h => h) (Or.inl ⟨by rfl, ?_⟩) trivial ?_
  · rintro w' -
    go_simp
  simp only [List.setIfInBounds_toArray, List.set_cons_zero, List.set_cons_succ]
  refine nany_take 21 42 (.slice aC nb (c - hN)) rfl rfl (by kernel_rfl) (by kernel_rfl) (by kernel_rfl) (fun _ _ _ h => h) (Or.inl ⟨by rfl, ?_⟩) trivial ?_
  · rintro w' -
    go_simp
  simp only [List.setIfInBounds_toArray, List.set_cons_zero, List.set_cons_succ]
  refine nany_two 1 24 (by kernel_rfl) ?_ ?_
  · refine nop_callE 22 (f := 22) (args := #[.slice a n c, .int .i64 12, .int .i64 4]) (R := fun v w' => v = .int .i64 xs ∧ Below v0.heap.size v0 w') rfl (by rfl) rfl (by go_simp) ((HNU.out v0 HBv0.out 12 4 (by omega) (by omega)).mono (fun e w' h => ⟨_, h.1.trans (by rw [Hxs.out]), rfl, h.2⟩)) ?_
    rintro v v1 ⟨rfl, hbv1⟩
    refine ⟨trivial, ?_⟩
    have HBv1 := hid (HBv0.out.trans (hbv1.mono HBv0.out.size))
    have Hv1 := hid ((hbv1.block g (Array.getElem?_eq_some_iff.1 Hv0.out).1).trans Hv0.out)
    clear hbv1
    simp only [List.setIfInBounds_toArray, List.set_cons_zero, List.set_cons_succ]
    refine nany_take 2 23 (.int .u32 xs) rfl rfl (by kernel_rfl) (by kernel_rfl) (by kernel_rfl) (fun _ _ _ h => h) (Or.inl ⟨by rfl, ?_⟩) trivial ?_
    · rintro w' -
      go_simp
    simp only [List.setIfInBounds_toArray, List.set_cons_zero, List.set_cons_succ]
    refine nany_two 4 24 (by kernel_rfl) ?_ ?_
    · refine nop_callE 25 (f := 22) (args := #[.slice a n c, .int .i64 16, .int .i64 4]) (R := fun v w' => v = .int .i64 xd ∧ Below v1.heap.size v1 w') rfl (by rfl) rfl (by go_simp) ((HNU.out v1 HBv1.out 16 4 (by omega) (by omega)).mono (fun e w' h => ⟨_, h.1.trans (by rw [Hxd.out]), rfl, h.2⟩)) ?_
      rintro v v2 ⟨rfl, hbv2⟩
      refine ⟨trivial, ?_⟩
      have HBv2 := hid (HBv1.out.trans (hbv2.mono HBv1.out.size))
      have Hv2 := hid ((hbv2.block g (Array.getElem?_eq_some_iff.1 Hv1.out).1).trans Hv1.out)
      clear hbv2
      simp only [List.setIfInBounds_toArray, List.set_cons_zero, List.set_cons_succ]
      refine nany_take 5 26 (.int .u32 xd) rfl rfl (by kernel_rfl) (by kernel_rfl) (by kernel_rfl) (fun _ _ _ h => h) (Or.inl ⟨by rfl, ?_⟩) trivial ?_
      · rintro w' -
        go_simp
      simp only [List.setIfInBounds_toArray, List.set_cons_zero, List.set_cons_succ]
      refine nany_two 7 24 (by kernel_rfl) ?_ ?_
      · refine nop_callE 28 (f := 22) (args := #[.slice a n c, .int .i64 9, .int .i64 1]) (R := fun v w' => v = .int .i64 xp ∧ Below v2.heap.size v2 w') rfl (by rfl) rfl (by go_simp) ((HNU.out v2 HBv2.out 9 1 (by omega) (by omega)).mono (fun e w' h => ⟨_, h.1.trans (by rw [Hxp.out]), rfl, h.2⟩)) ?_
        rintro v v3 ⟨rfl, hbv3⟩
        refine ⟨trivial, ?_⟩
        have HBv3 := hid (HBv2.out.trans (hbv3.mono HBv2.out.size))
        have Hv3 := hid ((hbv3.block g (Array.getElem?_eq_some_iff.1 Hv2.out).1).trans Hv2.out)
        clear hbv3
        simp only [List.setIfInBounds_toArray, List.set_cons_zero, List.set_cons_succ]
        refine nany_two 9 24 (by kernel_rfl) ?_ ?_
        · refine nop_callE 30 (f := 22) (args := #[.slice a n c, .int .i64 4, .int .i64 2]) (R := fun v w' => v = .int .i64 xi ∧ Below v3.heap.size v3 w') rfl (by rfl) rfl (by go_simp) ((HNU.out v3 HBv3.out 4 2 (by omega) (by omega)).mono (fun e w' h => ⟨_, h.1.trans (by rw [Hxi.out]), rfl, h.2⟩)) ?_
          rintro v v4 ⟨rfl, hbv4⟩
          refine ⟨trivial, ?_⟩
          have HBv4 := hid (HBv3.out.trans (hbv4.mono HBv3.out.size))
          have Hv4 := hid ((hbv4.block g (Array.getElem?_eq_some_iff.1 Hv3.out).1).trans Hv3.out)
          clear hbv4
          simp only [List.setIfInBounds_toArray, List.set_cons_zero, List.set_cons_succ]
          refine nany_two 17 24 (by kernel_rfl) ?_ ?_
          · refine nop_callE 38 (f := 22) (args := #[.slice a n c, .int .i64 8, .int .i64 1]) (R := fun v w' => v = .int .i64 xt ∧ Below v4.heap.size v4 w') rfl (by rfl) rfl (by go_simp) ((HNU.out v4 HBv4.out 8 1 (by omega) (by omega)).mono (fun e w' h => ⟨_, h.1.trans (by rw [Hxt.out]), rfl, h.2⟩)) ?_
            rintro v v5 ⟨rfl, hbv5⟩
            refine ⟨trivial, ?_⟩
            have HBv5 := hid (HBv4.out.trans (hbv5.mono HBv4.out.size))
            have Hv5 := hid ((hbv5.block g (Array.getElem?_eq_some_iff.1 Hv4.out).1).trans Hv4.out)
            clear hbv5
            simp only [List.setIfInBounds_toArray, List.set_cons_zero, List.set_cons_succ]
            refine nany_two 22 24 (by kernel_rfl) ?_ ?_
            · refine nop_callE 43 (f := 23) (args := #[.slice aC nb (c - hN)]) (R := fun v w' => ∃ a2 c2, v = .slice a2 nb c2 ∧ By w' (New v5) a2 body ∧ nb ≤ c2 ∧ Below v5.heap.size v5 w') rfl (by rfl) rfl (by go_simp) ((HCL.out v5 HBv5.out).mono (fun e w' h => by obtain ⟨a2, c2, h1, h2⟩ := h; exact ⟨_, h1, a2, c2, rfl, h2⟩)) ?_
              rintro v v6 ⟨a2, c2, rfl, hy9, hc9, hbv6⟩
              refine ⟨trivial, ?_⟩
              have HBv6 := hid (HBv5.out.trans (hbv6.mono HBv5.out.size))
              have Hv6 := hid ((hbv6.block g (Array.getElem?_eq_some_iff.1 Hv5.out).1).trans Hv5.out)
              have HY := hid (hy9.weak (S' := fun b => v5.heap.size ≤ b ∧ b < v6.heap.size) (fun b hb hl => ⟨hb, hl⟩))
              have HC9 := hid hc9
              have HSZ := hid HBv5.out.size
              clear hbv6 hy9 hc9
              simp only [List.setIfInBounds_toArray, List.set_cons_zero, List.set_cons_succ]
              refine nany_take 23 44 (.agg (pkC xs xd xp xi o mo false xt (.slice a2 nb c2))) rfl rfl (by kernel_rfl) (by kernel_rfl) (by kernel_rfl) (fun _ _ _ h => h) (Or.inl ⟨by rfl, ?_⟩) trivial ?_
              · rintro w' -
                go_simp
              simp only [List.setIfInBounds_toArray, List.set_cons_zero, List.set_cons_succ]
              refine nany_one 24 (by kernel_rfl) ?_
              obtain ⟨v7, hv7, kv7, bv7⟩ := boxP v6 (pkC 0 0 0 0 0 false false 0 (.slice none 0 0)) 25
              obtain ⟨g8, hg8⟩ : ∃ g, v6.heap.size = g := ⟨_, rfl⟩
              rw [hg8] at kv7
              refine nop_value' 8 (v := .pointer (some ⟨g8, 0, none⟩)) (w' := v7) rfl (by rfl) rfl (by rw [hv7, ← hg8]; go_simp) ?_
              have HBv7 := hid (HBv6.out.trans (bv7.mono HBv6.out.size))
              have Hv7 := hid ((bv7.block g (Array.getElem?_eq_some_iff.1 Hv6.out).1).trans Hv6.out)
              have Kv7 := hid kv7
              have HNE := hid (show g ≠ g8 by have := (Array.getElem?_eq_some_iff.1 Hv6.out).1; omega)
              have HG8 := hid (show w.heap.size ≤ g8 by have := HBv6.out.size; omega)
              have HBA := hid bv7
              have HG8E := hid hg8
              refine ⟨trivial, ?_⟩
              clear bv7 kv7 hv7 hg8
              simp only [List.setIfInBounds_toArray, List.set_cons_zero, List.set_cons_succ]
              have HYF := hid ((HY.out.weak (S' := fun b => w.heap.size ≤ b ∧ b ≠ g ∧ b ≠ g8) (fun b hb _ => ⟨Nat.le_trans HSZ.out hb.1, fun e => by have := (Array.getElem?_eq_some_iff.1 Hv5.out).1; rw [e] at hb; exact absurd this (Nat.not_lt.2 hb.1), fun e => by rw [e] at hb; have := hb.2; have := HG8E.out; omega⟩)).later HBA.out)
              obtain ⟨W11, hW11⟩ : ∃ W, W = v7.setRow g8 (pkC xs xd xp xi o mo false xt (.slice a2 nb c2)) := ⟨_, rfl⟩
              refine nany_one 25 (by kernel_rfl) ?_
              refine nop_skip (w' := W11) rfl (by rfl) rfl (by rw [hW11]; exact ex_store 25 _ _ rfl g8 (pkC xs xd xp xi o mo false xt (.slice a2 nb c2)) rfl rfl 25 _ Kv7.out sizePk rfl (pkC_one _ _ _ _ _ _ _ _ _ rfl)) ?_
              refine ⟨trivial, ?_⟩
              refine wpAnyH_done (by kernel_rfl) ?_ _
              have h11 : W11.heap[g8]? = some (.cells (pkC xs xd xp xi o mo false xt (.slice a2 nb c2)) 25 (0, 0)) := by rw [hW11]; exact setRow_heap _ _ _ _ _ _ Kv7.out
              have h11g : W11.heap[g]? = some (.cells (pkC 0 0 0 0 0 false false 0 (.slice none 0 0)) 25 (0, 0)) := by rw [hW11, setRow_other _ _ _ _ HNE.out]; exact Hv7.out
              have hB11 : Below w.heap.size w W11 := by rw [hW11]; exact (setRow_mods _ _ _).to_below HBv7.out HBv7.out.size (fun x hx => by rw [hx]; exact HG8.out)
              have hy11 : By W11 (fun b => w.heap.size ≤ b ∧ b ≠ g ∧ b ≠ g8) a2 body := by rw [hW11]; exact (HYF.out.keep (fun x hx hl => setRow_other _ _ _ _ hx.2.2))
              have HW8 := hid (isWhole_any W11 xs xd xp xi o mo false xt (.slice a2 nb c2))
              have H11 := hid h11
              have H11g := hid h11g
              have HB11 := hid hB11
              have HY11 := hid hy11
              clear h11 h11g hB11 hy11 hW11 hS
              go_wp2_with (first
    | (refine wpList_load_row rfl 25 _ rfl g8 rfl 25 _ (0, 0) _ H11.out Try.underlying25 rfl sizePk ?_)
    | (go_at_call 24; refine HW8.out.mono ?_; rintro e w12 ⟨rfl, hb12⟩; have h12 := (hb12.block g8 (Array.getElem?_eq_some_iff.1 H11.out).1).trans H11.out; have h12g := (hb12.block g (Array.getElem?_eq_some_iff.1 H11g.out).1).trans H11g.out; have hB12 := HB11.out.trans (hb12.mono HB11.out.size); obtain ⟨W13, hW13, h13, b13, k13, s13⟩ := setP h12 6 (.bool (decide (o = 0) && !mo)) w.heap.size w hB12 HG8.out; have c126 := cell_of h12 (i := 6) (v := .bool false) rfl; have f126 := froz_of h12 6; have H13 := hid h13; have H13g := hid ((k13 g HNE.out).trans h12g); have HB13 := hid b13; have HY13 := hid ((HY11.out.later hb12).keep (w' := W13) (fun b hb hl => k13 b hb.2.2)); have HW13 := hW13.symm; clear h12 h12g hB12 hb12 h13 b13 k13 s13 hW13 HW8)
    | (refine wpList_load_row rfl 25 _ rfl g8 rfl 25 _ (0, 0) _ H13.out Try.underlying25 rfl sizePk ?_)
    | (refine wpList_store_row rfl 25 _ _ rfl g (pkC xs xd xp xi o mo (decide (o = 0) && !mo) xt (.slice a2 nb c2)) rfl rfl 25 _ H13g.out sizePk rfl (pkC_one _ _ _ _ _ _ _ _ _ rfl) ?_))
              refine bodyPost_ret (results_ct rfl _ _ g (pkC xs xd xp xi o mo (decide (o = 0) && !mo) xt (.slice a2 nb c2)) _ _ rfl (setRow_heap _ g _ _ _ _ H13g.out) Try.underlying25 sizePk) rfl ⟨a2, c2, rfl, (HY13.out.keep (fun x hx hl => setRow_other W13 g x _ hx.2.1)).weak (fun x hx _ => hx.1), HC9.out, ?_⟩
              exact (setRow_mods W13 g _).to_below HB13.out HB13.out.size (fun x hx => by rw [hx, HG.out]; exact Nat.le_refl _)
            · obtain ⟨v8, hv8, kv8, bv8⟩ := boxP v5 (pkC 0 0 0 0 0 false false 0 (.slice none 0 0)) 25
              obtain ⟨g8, hg8⟩ : ∃ g, v5.heap.size = g := ⟨_, rfl⟩
              rw [hg8] at kv8
              refine nop_value' 8 (v := .pointer (some ⟨g8, 0, none⟩)) (w' := v8) rfl (by rfl) rfl (by rw [hv8, ← hg8]; go_simp) ?_
              have HBv8 := hid (HBv5.out.trans (bv8.mono HBv5.out.size))
              have Hv8 := hid ((bv8.block g (Array.getElem?_eq_some_iff.1 Hv5.out).1).trans Hv5.out)
              have Kv8 := hid kv8
              have HNE := hid (show g ≠ g8 by have := (Array.getElem?_eq_some_iff.1 Hv5.out).1; omega)
              have HG8 := hid (show w.heap.size ≤ g8 by have := HBv5.out.size; omega)
              have HBA := hid bv8
              have HG8E := hid hg8
              refine ⟨trivial, ?_⟩
              clear bv8 kv8 hv8 hg8
              simp only [List.setIfInBounds_toArray, List.set_cons_zero, List.set_cons_succ]
              refine nany_one 22 (by kernel_rfl) ?_
              refine nop_callE 43 (f := 23) (args := #[.slice aC nb (c - hN)]) (R := fun v w' => ∃ a2 c2, v = .slice a2 nb c2 ∧ By w' (New v8) a2 body ∧ nb ≤ c2 ∧ Below v8.heap.size v8 w') rfl (by rfl) rfl (by go_simp) ((HCL.out v8 HBv8.out).mono (fun e w' h => by obtain ⟨a2, c2, h1, h2⟩ := h; exact ⟨_, h1, a2, c2, rfl, h2⟩)) ?_
              rintro v v9 ⟨a2, c2, rfl, hy9, hc9, hbv9⟩
              refine ⟨trivial, ?_⟩
              have HBv9 := hid (HBv8.out.trans (hbv9.mono HBv8.out.size))
              have Hv9 := hid ((hbv9.block g (Array.getElem?_eq_some_iff.1 Hv8.out).1).trans Hv8.out)
              have Kv9 := hid ((hbv9.block g8 (Array.getElem?_eq_some_iff.1 Kv8.out).1).trans Kv8.out)
              have HY := hid (hy9.weak (S' := fun b => v8.heap.size ≤ b ∧ b < v9.heap.size) (fun b hb hl => ⟨hb, hl⟩))
              have HC9 := hid hc9
              have HSZ := hid HBv8.out.size
              clear hbv9 hy9 hc9
              simp only [List.setIfInBounds_toArray, List.set_cons_zero, List.set_cons_succ]
              refine nany_take 23 44 (.agg (pkC xs xd xp xi o mo false xt (.slice a2 nb c2))) rfl rfl (by kernel_rfl) (by kernel_rfl) (by kernel_rfl) (fun _ _ _ h => h) (Or.inl ⟨by rfl, ?_⟩) trivial ?_
              · rintro w' -
                go_simp
              simp only [List.setIfInBounds_toArray, List.set_cons_zero, List.set_cons_succ]
              have HYF := hid (HY.out.weak (S' := fun b => w.heap.size ≤ b ∧ b ≠ g ∧ b ≠ g8) (fun b hb _ => ⟨Nat.le_trans HSZ.out hb.1, fun e => by have := (Array.getElem?_eq_some_iff.1 Hv8.out).1; rw [e] at hb; exact absurd this (Nat.not_lt.2 hb.1), fun e => by have := (Array.getElem?_eq_some_iff.1 Kv8.out).1; rw [e] at hb; exact absurd this (Nat.not_lt.2 hb.1)⟩))
              obtain ⟨W11, hW11⟩ : ∃ W, W = v9.setRow g8 (pkC xs xd xp xi o mo false xt (.slice a2 nb c2)) := ⟨_, rfl⟩
              refine nany_one 25 (by kernel_rfl) ?_
              refine nop_skip (w' := W11) rfl (by rfl) rfl (by rw [hW11]; exact ex_store 25 _ _ rfl g8 (pkC xs xd xp xi o mo false xt (.slice a2 nb c2)) rfl rfl 25 _ Kv9.out sizePk rfl (pkC_one _ _ _ _ _ _ _ _ _ rfl)) ?_
              refine ⟨trivial, ?_⟩
              refine wpAnyH_done (by kernel_rfl) ?_ _
              have h11 : W11.heap[g8]? = some (.cells (pkC xs xd xp xi o mo false xt (.slice a2 nb c2)) 25 (0, 0)) := by rw [hW11]; exact setRow_heap _ _ _ _ _ _ Kv9.out
              have h11g : W11.heap[g]? = some (.cells (pkC 0 0 0 0 0 false false 0 (.slice none 0 0)) 25 (0, 0)) := by rw [hW11, setRow_other _ _ _ _ HNE.out]; exact Hv9.out
              have hB11 : Below w.heap.size w W11 := by rw [hW11]; exact (setRow_mods _ _ _).to_below HBv9.out HBv9.out.size (fun x hx => by rw [hx]; exact HG8.out)
              have hy11 : By W11 (fun b => w.heap.size ≤ b ∧ b ≠ g ∧ b ≠ g8) a2 body := by rw [hW11]; exact (HYF.out.keep (fun x hx hl => setRow_other _ _ _ _ hx.2.2))
              have HW8 := hid (isWhole_any W11 xs xd xp xi o mo false xt (.slice a2 nb c2))
              have H11 := hid h11
              have H11g := hid h11g
              have HB11 := hid hB11
              have HY11 := hid hy11
              clear h11 h11g hB11 hy11 hW11 hS
              go_wp2_with (first
    | (refine wpList_load_row rfl 25 _ rfl g8 rfl 25 _ (0, 0) _ H11.out Try.underlying25 rfl sizePk ?_)
    | (go_at_call 24; refine HW8.out.mono ?_; rintro e w12 ⟨rfl, hb12⟩; have h12 := (hb12.block g8 (Array.getElem?_eq_some_iff.1 H11.out).1).trans H11.out; have h12g := (hb12.block g (Array.getElem?_eq_some_iff.1 H11g.out).1).trans H11g.out; have hB12 := HB11.out.trans (hb12.mono HB11.out.size); obtain ⟨W13, hW13, h13, b13, k13, s13⟩ := setP h12 6 (.bool (decide (o = 0) && !mo)) w.heap.size w hB12 HG8.out; have c126 := cell_of h12 (i := 6) (v := .bool false) rfl; have f126 := froz_of h12 6; have H13 := hid h13; have H13g := hid ((k13 g HNE.out).trans h12g); have HB13 := hid b13; have HY13 := hid ((HY11.out.later hb12).keep (w' := W13) (fun b hb hl => k13 b hb.2.2)); have HW13 := hW13.symm; clear h12 h12g hB12 hb12 h13 b13 k13 s13 hW13 HW8)
    | (refine wpList_load_row rfl 25 _ rfl g8 rfl 25 _ (0, 0) _ H13.out Try.underlying25 rfl sizePk ?_)
    | (refine wpList_store_row rfl 25 _ _ rfl g (pkC xs xd xp xi o mo (decide (o = 0) && !mo) xt (.slice a2 nb c2)) rfl rfl 25 _ H13g.out sizePk rfl (pkC_one _ _ _ _ _ _ _ _ _ rfl) ?_))
              refine bodyPost_ret (results_ct rfl _ _ g (pkC xs xd xp xi o mo (decide (o = 0) && !mo) xt (.slice a2 nb c2)) _ _ rfl (setRow_heap _ g _ _ _ _ H13g.out) Try.underlying25 sizePk) rfl ⟨a2, c2, rfl, (HY13.out.keep (fun x hx hl => setRow_other W13 g x _ hx.2.1)).weak (fun x hx _ => hx.1), HC9.out, ?_⟩
              exact (setRow_mods W13 g _).to_below HB13.out HB13.out.size (fun x hx => by rw [hx, HG.out]; exact Nat.le_refl _)
          · obtain ⟨v10, hv10, kv10, bv10⟩ := boxP v4 (pkC 0 0 0 0 0 false false 0 (.slice none 0 0)) 25
            obtain ⟨g8, hg8⟩ : ∃ g, v4.heap.size = g := ⟨_, rfl⟩
            rw [hg8] at kv10
            refine nop_value' 8 (v := .pointer (some ⟨g8, 0, none⟩)) (w' := v10) rfl (by rfl) rfl (by rw [hv10, ← hg8]; go_simp) ?_
            have HBv10 := hid (HBv4.out.trans (bv10.mono HBv4.out.size))
            have Hv10 := hid ((bv10.block g (Array.getElem?_eq_some_iff.1 Hv4.out).1).trans Hv4.out)
            have Kv10 := hid kv10
            have HNE := hid (show g ≠ g8 by have := (Array.getElem?_eq_some_iff.1 Hv4.out).1; omega)
            have HG8 := hid (show w.heap.size ≤ g8 by have := HBv4.out.size; omega)
            have HBA := hid bv10
            have HG8E := hid hg8
            refine ⟨trivial, ?_⟩
            clear bv10 kv10 hv10 hg8
            simp only [List.setIfInBounds_toArray, List.set_cons_zero, List.set_cons_succ]
            refine nany_one 17 (by kernel_rfl) ?_
            refine nop_callE 38 (f := 22) (args := #[.slice a n c, .int .i64 8, .int .i64 1]) (R := fun v w' => v = .int .i64 xt ∧ Below v10.heap.size v10 w') rfl (by rfl) rfl (by go_simp) ((HNU.out v10 HBv10.out 8 1 (by omega) (by omega)).mono (fun e w' h => ⟨_, h.1.trans (by rw [Hxt.out]), rfl, h.2⟩)) ?_
            rintro v v11 ⟨rfl, hbv11⟩
            refine ⟨trivial, ?_⟩
            have HBv11 := hid (HBv10.out.trans (hbv11.mono HBv10.out.size))
            have Hv11 := hid ((hbv11.block g (Array.getElem?_eq_some_iff.1 Hv10.out).1).trans Hv10.out)
            have Kv11 := hid ((hbv11.block g8 (Array.getElem?_eq_some_iff.1 Kv10.out).1).trans Kv10.out)
            clear hbv11
            simp only [List.setIfInBounds_toArray, List.set_cons_zero, List.set_cons_succ]
            refine nany_one 22 (by kernel_rfl) ?_
            refine nop_callE 43 (f := 23) (args := #[.slice aC nb (c - hN)]) (R := fun v w' => ∃ a2 c2, v = .slice a2 nb c2 ∧ By w' (New v11) a2 body ∧ nb ≤ c2 ∧ Below v11.heap.size v11 w') rfl (by rfl) rfl (by go_simp) ((HCL.out v11 HBv11.out).mono (fun e w' h => by obtain ⟨a2, c2, h1, h2⟩ := h; exact ⟨_, h1, a2, c2, rfl, h2⟩)) ?_
            rintro v v12 ⟨a2, c2, rfl, hy9, hc9, hbv12⟩
            refine ⟨trivial, ?_⟩
            have HBv12 := hid (HBv11.out.trans (hbv12.mono HBv11.out.size))
            have Hv12 := hid ((hbv12.block g (Array.getElem?_eq_some_iff.1 Hv11.out).1).trans Hv11.out)
            have Kv12 := hid ((hbv12.block g8 (Array.getElem?_eq_some_iff.1 Kv11.out).1).trans Kv11.out)
            have HY := hid (hy9.weak (S' := fun b => v11.heap.size ≤ b ∧ b < v12.heap.size) (fun b hb hl => ⟨hb, hl⟩))
            have HC9 := hid hc9
            have HSZ := hid HBv11.out.size
            clear hbv12 hy9 hc9
            simp only [List.setIfInBounds_toArray, List.set_cons_zero, List.set_cons_succ]
            refine nany_take 23 44 (.agg (pkC xs xd xp xi o mo false xt (.slice a2 nb c2))) rfl rfl (by kernel_rfl) (by kernel_rfl) (by kernel_rfl) (fun _ _ _ h => h) (Or.inl ⟨by rfl, ?_⟩) trivial ?_
            · rintro w' -
              go_simp
            simp only [List.setIfInBounds_toArray, List.set_cons_zero, List.set_cons_succ]
            have HYF := hid (HY.out.weak (S' := fun b => w.heap.size ≤ b ∧ b ≠ g ∧ b ≠ g8) (fun b hb _ => ⟨Nat.le_trans HSZ.out hb.1, fun e => by have := (Array.getElem?_eq_some_iff.1 Hv11.out).1; rw [e] at hb; exact absurd this (Nat.not_lt.2 hb.1), fun e => by have := (Array.getElem?_eq_some_iff.1 Kv11.out).1; rw [e] at hb; exact absurd this (Nat.not_lt.2 hb.1)⟩))
            obtain ⟨W11, hW11⟩ : ∃ W, W = v12.setRow g8 (pkC xs xd xp xi o mo false xt (.slice a2 nb c2)) := ⟨_, rfl⟩
            refine nany_one 25 (by kernel_rfl) ?_
            refine nop_skip (w' := W11) rfl (by rfl) rfl (by rw [hW11]; exact ex_store 25 _ _ rfl g8 (pkC xs xd xp xi o mo false xt (.slice a2 nb c2)) rfl rfl 25 _ Kv12.out sizePk rfl (pkC_one _ _ _ _ _ _ _ _ _ rfl)) ?_
            refine ⟨trivial, ?_⟩
            refine wpAnyH_done (by kernel_rfl) ?_ _
            have h11 : W11.heap[g8]? = some (.cells (pkC xs xd xp xi o mo false xt (.slice a2 nb c2)) 25 (0, 0)) := by rw [hW11]; exact setRow_heap _ _ _ _ _ _ Kv12.out
            have h11g : W11.heap[g]? = some (.cells (pkC 0 0 0 0 0 false false 0 (.slice none 0 0)) 25 (0, 0)) := by rw [hW11, setRow_other _ _ _ _ HNE.out]; exact Hv12.out
            have hB11 : Below w.heap.size w W11 := by rw [hW11]; exact (setRow_mods _ _ _).to_below HBv12.out HBv12.out.size (fun x hx => by rw [hx]; exact HG8.out)
            have hy11 : By W11 (fun b => w.heap.size ≤ b ∧ b ≠ g ∧ b ≠ g8) a2 body := by rw [hW11]; exact (HYF.out.keep (fun x hx hl => setRow_other _ _ _ _ hx.2.2))
            have HW8 := hid (isWhole_any W11 xs xd xp xi o mo false xt (.slice a2 nb c2))
            have H11 := hid h11
            have H11g := hid h11g
            have HB11 := hid hB11
            have HY11 := hid hy11
            clear h11 h11g hB11 hy11 hW11 hS
            go_wp2_with (first
    | (refine wpList_load_row rfl 25 _ rfl g8 rfl 25 _ (0, 0) _ H11.out Try.underlying25 rfl sizePk ?_)
    | (go_at_call 24; refine HW8.out.mono ?_; rintro e w12 ⟨rfl, hb12⟩; have h12 := (hb12.block g8 (Array.getElem?_eq_some_iff.1 H11.out).1).trans H11.out; have h12g := (hb12.block g (Array.getElem?_eq_some_iff.1 H11g.out).1).trans H11g.out; have hB12 := HB11.out.trans (hb12.mono HB11.out.size); obtain ⟨W13, hW13, h13, b13, k13, s13⟩ := setP h12 6 (.bool (decide (o = 0) && !mo)) w.heap.size w hB12 HG8.out; have c126 := cell_of h12 (i := 6) (v := .bool false) rfl; have f126 := froz_of h12 6; have H13 := hid h13; have H13g := hid ((k13 g HNE.out).trans h12g); have HB13 := hid b13; have HY13 := hid ((HY11.out.later hb12).keep (w' := W13) (fun b hb hl => k13 b hb.2.2)); have HW13 := hW13.symm; clear h12 h12g hB12 hb12 h13 b13 k13 s13 hW13 HW8)
    | (refine wpList_load_row rfl 25 _ rfl g8 rfl 25 _ (0, 0) _ H13.out Try.underlying25 rfl sizePk ?_)
    | (refine wpList_store_row rfl 25 _ _ rfl g (pkC xs xd xp xi o mo (decide (o = 0) && !mo) xt (.slice a2 nb c2)) rfl rfl 25 _ H13g.out sizePk rfl (pkC_one _ _ _ _ _ _ _ _ _ rfl) ?_))
            refine bodyPost_ret (results_ct rfl _ _ g (pkC xs xd xp xi o mo (decide (o = 0) && !mo) xt (.slice a2 nb c2)) _ _ rfl (setRow_heap _ g _ _ _ _ H13g.out) Try.underlying25 sizePk) rfl ⟨a2, c2, rfl, (HY13.out.keep (fun x hx hl => setRow_other W13 g x _ hx.2.1)).weak (fun x hx _ => hx.1), HC9.out, ?_⟩
            exact (setRow_mods W13 g _).to_below HB13.out HB13.out.size (fun x hx => by rw [hx, HG.out]; exact Nat.le_refl _)
        · obtain ⟨v13, hv13, kv13, bv13⟩ := boxP v3 (pkC 0 0 0 0 0 false false 0 (.slice none 0 0)) 25
          obtain ⟨g8, hg8⟩ : ∃ g, v3.heap.size = g := ⟨_, rfl⟩
          rw [hg8] at kv13
          refine nop_value' 8 (v := .pointer (some ⟨g8, 0, none⟩)) (w' := v13) rfl (by rfl) rfl (by rw [hv13, ← hg8]; go_simp) ?_
          have HBv13 := hid (HBv3.out.trans (bv13.mono HBv3.out.size))
          have Hv13 := hid ((bv13.block g (Array.getElem?_eq_some_iff.1 Hv3.out).1).trans Hv3.out)
          have Kv13 := hid kv13
          have HNE := hid (show g ≠ g8 by have := (Array.getElem?_eq_some_iff.1 Hv3.out).1; omega)
          have HG8 := hid (show w.heap.size ≤ g8 by have := HBv3.out.size; omega)
          have HBA := hid bv13
          have HG8E := hid hg8
          refine ⟨trivial, ?_⟩
          clear bv13 kv13 hv13 hg8
          simp only [List.setIfInBounds_toArray, List.set_cons_zero, List.set_cons_succ]
          refine nany_one 9 (by kernel_rfl) ?_
          refine nop_callE 30 (f := 22) (args := #[.slice a n c, .int .i64 4, .int .i64 2]) (R := fun v w' => v = .int .i64 xi ∧ Below v13.heap.size v13 w') rfl (by rfl) rfl (by go_simp) ((HNU.out v13 HBv13.out 4 2 (by omega) (by omega)).mono (fun e w' h => ⟨_, h.1.trans (by rw [Hxi.out]), rfl, h.2⟩)) ?_
          rintro v v14 ⟨rfl, hbv14⟩
          refine ⟨trivial, ?_⟩
          have HBv14 := hid (HBv13.out.trans (hbv14.mono HBv13.out.size))
          have Hv14 := hid ((hbv14.block g (Array.getElem?_eq_some_iff.1 Hv13.out).1).trans Hv13.out)
          have Kv14 := hid ((hbv14.block g8 (Array.getElem?_eq_some_iff.1 Kv13.out).1).trans Kv13.out)
          clear hbv14
          simp only [List.setIfInBounds_toArray, List.set_cons_zero, List.set_cons_succ]
          refine nany_one 17 (by kernel_rfl) ?_
          refine nop_callE 38 (f := 22) (args := #[.slice a n c, .int .i64 8, .int .i64 1]) (R := fun v w' => v = .int .i64 xt ∧ Below v14.heap.size v14 w') rfl (by rfl) rfl (by go_simp) ((HNU.out v14 HBv14.out 8 1 (by omega) (by omega)).mono (fun e w' h => ⟨_, h.1.trans (by rw [Hxt.out]), rfl, h.2⟩)) ?_
          rintro v v15 ⟨rfl, hbv15⟩
          refine ⟨trivial, ?_⟩
          have HBv15 := hid (HBv14.out.trans (hbv15.mono HBv14.out.size))
          have Hv15 := hid ((hbv15.block g (Array.getElem?_eq_some_iff.1 Hv14.out).1).trans Hv14.out)
          have Kv15 := hid ((hbv15.block g8 (Array.getElem?_eq_some_iff.1 Kv14.out).1).trans Kv14.out)
          clear hbv15
          simp only [List.setIfInBounds_toArray, List.set_cons_zero, List.set_cons_succ]
          refine nany_one 22 (by kernel_rfl) ?_
          refine nop_callE 43 (f := 23) (args := #[.slice aC nb (c - hN)]) (R := fun v w' => ∃ a2 c2, v = .slice a2 nb c2 ∧ By w' (New v15) a2 body ∧ nb ≤ c2 ∧ Below v15.heap.size v15 w') rfl (by rfl) rfl (by go_simp) ((HCL.out v15 HBv15.out).mono (fun e w' h => by obtain ⟨a2, c2, h1, h2⟩ := h; exact ⟨_, h1, a2, c2, rfl, h2⟩)) ?_
          rintro v v16 ⟨a2, c2, rfl, hy9, hc9, hbv16⟩
          refine ⟨trivial, ?_⟩
          have HBv16 := hid (HBv15.out.trans (hbv16.mono HBv15.out.size))
          have Hv16 := hid ((hbv16.block g (Array.getElem?_eq_some_iff.1 Hv15.out).1).trans Hv15.out)
          have Kv16 := hid ((hbv16.block g8 (Array.getElem?_eq_some_iff.1 Kv15.out).1).trans Kv15.out)
          have HY := hid (hy9.weak (S' := fun b => v15.heap.size ≤ b ∧ b < v16.heap.size) (fun b hb hl => ⟨hb, hl⟩))
          have HC9 := hid hc9
          have HSZ := hid HBv15.out.size
          clear hbv16 hy9 hc9
          simp only [List.setIfInBounds_toArray, List.set_cons_zero, List.set_cons_succ]
          refine nany_take 23 44 (.agg (pkC xs xd xp xi o mo false xt (.slice a2 nb c2))) rfl rfl (by kernel_rfl) (by kernel_rfl) (by kernel_rfl) (fun _ _ _ h => h) (Or.inl ⟨by rfl, ?_⟩) trivial ?_
          · rintro w' -
            go_simp
          simp only [List.setIfInBounds_toArray, List.set_cons_zero, List.set_cons_succ]
          have HYF := hid (HY.out.weak (S' := fun b => w.heap.size ≤ b ∧ b ≠ g ∧ b ≠ g8) (fun b hb _ => ⟨Nat.le_trans HSZ.out hb.1, fun e => by have := (Array.getElem?_eq_some_iff.1 Hv15.out).1; rw [e] at hb; exact absurd this (Nat.not_lt.2 hb.1), fun e => by have := (Array.getElem?_eq_some_iff.1 Kv15.out).1; rw [e] at hb; exact absurd this (Nat.not_lt.2 hb.1)⟩))
          obtain ⟨W11, hW11⟩ : ∃ W, W = v16.setRow g8 (pkC xs xd xp xi o mo false xt (.slice a2 nb c2)) := ⟨_, rfl⟩
          refine nany_one 25 (by kernel_rfl) ?_
          refine nop_skip (w' := W11) rfl (by rfl) rfl (by rw [hW11]; exact ex_store 25 _ _ rfl g8 (pkC xs xd xp xi o mo false xt (.slice a2 nb c2)) rfl rfl 25 _ Kv16.out sizePk rfl (pkC_one _ _ _ _ _ _ _ _ _ rfl)) ?_
          refine ⟨trivial, ?_⟩
          refine wpAnyH_done (by kernel_rfl) ?_ _
          have h11 : W11.heap[g8]? = some (.cells (pkC xs xd xp xi o mo false xt (.slice a2 nb c2)) 25 (0, 0)) := by rw [hW11]; exact setRow_heap _ _ _ _ _ _ Kv16.out
          have h11g : W11.heap[g]? = some (.cells (pkC 0 0 0 0 0 false false 0 (.slice none 0 0)) 25 (0, 0)) := by rw [hW11, setRow_other _ _ _ _ HNE.out]; exact Hv16.out
          have hB11 : Below w.heap.size w W11 := by rw [hW11]; exact (setRow_mods _ _ _).to_below HBv16.out HBv16.out.size (fun x hx => by rw [hx]; exact HG8.out)
          have hy11 : By W11 (fun b => w.heap.size ≤ b ∧ b ≠ g ∧ b ≠ g8) a2 body := by rw [hW11]; exact (HYF.out.keep (fun x hx hl => setRow_other _ _ _ _ hx.2.2))
          have HW8 := hid (isWhole_any W11 xs xd xp xi o mo false xt (.slice a2 nb c2))
          have H11 := hid h11
          have H11g := hid h11g
          have HB11 := hid hB11
          have HY11 := hid hy11
          clear h11 h11g hB11 hy11 hW11 hS
          go_wp2_with (first
    | (refine wpList_load_row rfl 25 _ rfl g8 rfl 25 _ (0, 0) _ H11.out Try.underlying25 rfl sizePk ?_)
    | (go_at_call 24; refine HW8.out.mono ?_; rintro e w12 ⟨rfl, hb12⟩; have h12 := (hb12.block g8 (Array.getElem?_eq_some_iff.1 H11.out).1).trans H11.out; have h12g := (hb12.block g (Array.getElem?_eq_some_iff.1 H11g.out).1).trans H11g.out; have hB12 := HB11.out.trans (hb12.mono HB11.out.size); obtain ⟨W13, hW13, h13, b13, k13, s13⟩ := setP h12 6 (.bool (decide (o = 0) && !mo)) w.heap.size w hB12 HG8.out; have c126 := cell_of h12 (i := 6) (v := .bool false) rfl; have f126 := froz_of h12 6; have H13 := hid h13; have H13g := hid ((k13 g HNE.out).trans h12g); have HB13 := hid b13; have HY13 := hid ((HY11.out.later hb12).keep (w' := W13) (fun b hb hl => k13 b hb.2.2)); have HW13 := hW13.symm; clear h12 h12g hB12 hb12 h13 b13 k13 s13 hW13 HW8)
    | (refine wpList_load_row rfl 25 _ rfl g8 rfl 25 _ (0, 0) _ H13.out Try.underlying25 rfl sizePk ?_)
    | (refine wpList_store_row rfl 25 _ _ rfl g (pkC xs xd xp xi o mo (decide (o = 0) && !mo) xt (.slice a2 nb c2)) rfl rfl 25 _ H13g.out sizePk rfl (pkC_one _ _ _ _ _ _ _ _ _ rfl) ?_))
          refine bodyPost_ret (results_ct rfl _ _ g (pkC xs xd xp xi o mo (decide (o = 0) && !mo) xt (.slice a2 nb c2)) _ _ rfl (setRow_heap _ g _ _ _ _ H13g.out) Try.underlying25 sizePk) rfl ⟨a2, c2, rfl, (HY13.out.keep (fun x hx hl => setRow_other W13 g x _ hx.2.1)).weak (fun x hx _ => hx.1), HC9.out, ?_⟩
          exact (setRow_mods W13 g _).to_below HB13.out HB13.out.size (fun x hx => by rw [hx, HG.out]; exact Nat.le_refl _)
      · obtain ⟨v17, hv17, kv17, bv17⟩ := boxP v2 (pkC 0 0 0 0 0 false false 0 (.slice none 0 0)) 25
        obtain ⟨g8, hg8⟩ : ∃ g, v2.heap.size = g := ⟨_, rfl⟩
        rw [hg8] at kv17
        refine nop_value' 8 (v := .pointer (some ⟨g8, 0, none⟩)) (w' := v17) rfl (by rfl) rfl (by rw [hv17, ← hg8]; go_simp) ?_
        have HBv17 := hid (HBv2.out.trans (bv17.mono HBv2.out.size))
        have Hv17 := hid ((bv17.block g (Array.getElem?_eq_some_iff.1 Hv2.out).1).trans Hv2.out)
        have Kv17 := hid kv17
        have HNE := hid (show g ≠ g8 by have := (Array.getElem?_eq_some_iff.1 Hv2.out).1; omega)
        have HG8 := hid (show w.heap.size ≤ g8 by have := HBv2.out.size; omega)
        have HBA := hid bv17
        have HG8E := hid hg8
        refine ⟨trivial, ?_⟩
        clear bv17 kv17 hv17 hg8
        simp only [List.setIfInBounds_toArray, List.set_cons_zero, List.set_cons_succ]
        refine nany_one 7 (by kernel_rfl) ?_
        refine nop_callE 28 (f := 22) (args := #[.slice a n c, .int .i64 9, .int .i64 1]) (R := fun v w' => v = .int .i64 xp ∧ Below v17.heap.size v17 w') rfl (by rfl) rfl (by go_simp) ((HNU.out v17 HBv17.out 9 1 (by omega) (by omega)).mono (fun e w' h => ⟨_, h.1.trans (by rw [Hxp.out]), rfl, h.2⟩)) ?_
        rintro v v18 ⟨rfl, hbv18⟩
        refine ⟨trivial, ?_⟩
        have HBv18 := hid (HBv17.out.trans (hbv18.mono HBv17.out.size))
        have Hv18 := hid ((hbv18.block g (Array.getElem?_eq_some_iff.1 Hv17.out).1).trans Hv17.out)
        have Kv18 := hid ((hbv18.block g8 (Array.getElem?_eq_some_iff.1 Kv17.out).1).trans Kv17.out)
        clear hbv18
        simp only [List.setIfInBounds_toArray, List.set_cons_zero, List.set_cons_succ]
        refine nany_one 9 (by kernel_rfl) ?_
        refine nop_callE 30 (f := 22) (args := #[.slice a n c, .int .i64 4, .int .i64 2]) (R := fun v w' => v = .int .i64 xi ∧ Below v18.heap.size v18 w') rfl (by rfl) rfl (by go_simp) ((HNU.out v18 HBv18.out 4 2 (by omega) (by omega)).mono (fun e w' h => ⟨_, h.1.trans (by rw [Hxi.out]), rfl, h.2⟩)) ?_
        rintro v v19 ⟨rfl, hbv19⟩
        refine ⟨trivial, ?_⟩
        have HBv19 := hid (HBv18.out.trans (hbv19.mono HBv18.out.size))
        have Hv19 := hid ((hbv19.block g (Array.getElem?_eq_some_iff.1 Hv18.out).1).trans Hv18.out)
        have Kv19 := hid ((hbv19.block g8 (Array.getElem?_eq_some_iff.1 Kv18.out).1).trans Kv18.out)
        clear hbv19
        simp only [List.setIfInBounds_toArray, List.set_cons_zero, List.set_cons_succ]
        refine nany_one 17 (by kernel_rfl) ?_
        refine nop_callE 38 (f := 22) (args := #[.slice a n c, .int .i64 8, .int .i64 1]) (R := fun v w' => v = .int .i64 xt ∧ Below v19.heap.size v19 w') rfl (by rfl) rfl (by go_simp) ((HNU.out v19 HBv19.out 8 1 (by omega) (by omega)).mono (fun e w' h => ⟨_, h.1.trans (by rw [Hxt.out]), rfl, h.2⟩)) ?_
        rintro v v20 ⟨rfl, hbv20⟩
        refine ⟨trivial, ?_⟩
        have HBv20 := hid (HBv19.out.trans (hbv20.mono HBv19.out.size))
        have Hv20 := hid ((hbv20.block g (Array.getElem?_eq_some_iff.1 Hv19.out).1).trans Hv19.out)
        have Kv20 := hid ((hbv20.block g8 (Array.getElem?_eq_some_iff.1 Kv19.out).1).trans Kv19.out)
        clear hbv20
        simp only [List.setIfInBounds_toArray, List.set_cons_zero, List.set_cons_succ]
        refine nany_one 22 (by kernel_rfl) ?_
        refine nop_callE 43 (f := 23) (args := #[.slice aC nb (c - hN)]) (R := fun v w' => ∃ a2 c2, v = .slice a2 nb c2 ∧ By w' (New v20) a2 body ∧ nb ≤ c2 ∧ Below v20.heap.size v20 w') rfl (by rfl) rfl (by go_simp) ((HCL.out v20 HBv20.out).mono (fun e w' h => by obtain ⟨a2, c2, h1, h2⟩ := h; exact ⟨_, h1, a2, c2, rfl, h2⟩)) ?_
        rintro v v21 ⟨a2, c2, rfl, hy9, hc9, hbv21⟩
        refine ⟨trivial, ?_⟩
        have HBv21 := hid (HBv20.out.trans (hbv21.mono HBv20.out.size))
        have Hv21 := hid ((hbv21.block g (Array.getElem?_eq_some_iff.1 Hv20.out).1).trans Hv20.out)
        have Kv21 := hid ((hbv21.block g8 (Array.getElem?_eq_some_iff.1 Kv20.out).1).trans Kv20.out)
        have HY := hid (hy9.weak (S' := fun b => v20.heap.size ≤ b ∧ b < v21.heap.size) (fun b hb hl => ⟨hb, hl⟩))
        have HC9 := hid hc9
        have HSZ := hid HBv20.out.size
        clear hbv21 hy9 hc9
        simp only [List.setIfInBounds_toArray, List.set_cons_zero, List.set_cons_succ]
        refine nany_take 23 44 (.agg (pkC xs xd xp xi o mo false xt (.slice a2 nb c2))) rfl rfl (by kernel_rfl) (by kernel_rfl) (by kernel_rfl) (fun _ _ _ h => h) (Or.inl ⟨by rfl, ?_⟩) trivial ?_
        · rintro w' -
          go_simp
        simp only [List.setIfInBounds_toArray, List.set_cons_zero, List.set_cons_succ]
        have HYF := hid (HY.out.weak (S' := fun b => w.heap.size ≤ b ∧ b ≠ g ∧ b ≠ g8) (fun b hb _ => ⟨Nat.le_trans HSZ.out hb.1, fun e => by have := (Array.getElem?_eq_some_iff.1 Hv20.out).1; rw [e] at hb; exact absurd this (Nat.not_lt.2 hb.1), fun e => by have := (Array.getElem?_eq_some_iff.1 Kv20.out).1; rw [e] at hb; exact absurd this (Nat.not_lt.2 hb.1)⟩))
        obtain ⟨W11, hW11⟩ : ∃ W, W = v21.setRow g8 (pkC xs xd xp xi o mo false xt (.slice a2 nb c2)) := ⟨_, rfl⟩
        refine nany_one 25 (by kernel_rfl) ?_
        refine nop_skip (w' := W11) rfl (by rfl) rfl (by rw [hW11]; exact ex_store 25 _ _ rfl g8 (pkC xs xd xp xi o mo false xt (.slice a2 nb c2)) rfl rfl 25 _ Kv21.out sizePk rfl (pkC_one _ _ _ _ _ _ _ _ _ rfl)) ?_
        refine ⟨trivial, ?_⟩
        refine wpAnyH_done (by kernel_rfl) ?_ _
        have h11 : W11.heap[g8]? = some (.cells (pkC xs xd xp xi o mo false xt (.slice a2 nb c2)) 25 (0, 0)) := by rw [hW11]; exact setRow_heap _ _ _ _ _ _ Kv21.out
        have h11g : W11.heap[g]? = some (.cells (pkC 0 0 0 0 0 false false 0 (.slice none 0 0)) 25 (0, 0)) := by rw [hW11, setRow_other _ _ _ _ HNE.out]; exact Hv21.out
        have hB11 : Below w.heap.size w W11 := by rw [hW11]; exact (setRow_mods _ _ _).to_below HBv21.out HBv21.out.size (fun x hx => by rw [hx]; exact HG8.out)
        have hy11 : By W11 (fun b => w.heap.size ≤ b ∧ b ≠ g ∧ b ≠ g8) a2 body := by rw [hW11]; exact (HYF.out.keep (fun x hx hl => setRow_other _ _ _ _ hx.2.2))
        have HW8 := hid (isWhole_any W11 xs xd xp xi o mo false xt (.slice a2 nb c2))
        have H11 := hid h11
        have H11g := hid h11g
        have HB11 := hid hB11
        have HY11 := hid hy11
        clear h11 h11g hB11 hy11 hW11 hS
        go_wp2_with (first
    | (refine wpList_load_row rfl 25 _ rfl g8 rfl 25 _ (0, 0) _ H11.out Try.underlying25 rfl sizePk ?_)
    | (go_at_call 24; refine HW8.out.mono ?_; rintro e w12 ⟨rfl, hb12⟩; have h12 := (hb12.block g8 (Array.getElem?_eq_some_iff.1 H11.out).1).trans H11.out; have h12g := (hb12.block g (Array.getElem?_eq_some_iff.1 H11g.out).1).trans H11g.out; have hB12 := HB11.out.trans (hb12.mono HB11.out.size); obtain ⟨W13, hW13, h13, b13, k13, s13⟩ := setP h12 6 (.bool (decide (o = 0) && !mo)) w.heap.size w hB12 HG8.out; have c126 := cell_of h12 (i := 6) (v := .bool false) rfl; have f126 := froz_of h12 6; have H13 := hid h13; have H13g := hid ((k13 g HNE.out).trans h12g); have HB13 := hid b13; have HY13 := hid ((HY11.out.later hb12).keep (w' := W13) (fun b hb hl => k13 b hb.2.2)); have HW13 := hW13.symm; clear h12 h12g hB12 hb12 h13 b13 k13 s13 hW13 HW8)
    | (refine wpList_load_row rfl 25 _ rfl g8 rfl 25 _ (0, 0) _ H13.out Try.underlying25 rfl sizePk ?_)
    | (refine wpList_store_row rfl 25 _ _ rfl g (pkC xs xd xp xi o mo (decide (o = 0) && !mo) xt (.slice a2 nb c2)) rfl rfl 25 _ H13g.out sizePk rfl (pkC_one _ _ _ _ _ _ _ _ _ rfl) ?_))
        refine bodyPost_ret (results_ct rfl _ _ g (pkC xs xd xp xi o mo (decide (o = 0) && !mo) xt (.slice a2 nb c2)) _ _ rfl (setRow_heap _ g _ _ _ _ H13g.out) Try.underlying25 sizePk) rfl ⟨a2, c2, rfl, (HY13.out.keep (fun x hx hl => setRow_other W13 g x _ hx.2.1)).weak (fun x hx _ => hx.1), HC9.out, ?_⟩
        exact (setRow_mods W13 g _).to_below HB13.out HB13.out.size (fun x hx => by rw [hx, HG.out]; exact Nat.le_refl _)
    · obtain ⟨v22, hv22, kv22, bv22⟩ := boxP v1 (pkC 0 0 0 0 0 false false 0 (.slice none 0 0)) 25
      obtain ⟨g8, hg8⟩ : ∃ g, v1.heap.size = g := ⟨_, rfl⟩
      rw [hg8] at kv22
      refine nop_value' 8 (v := .pointer (some ⟨g8, 0, none⟩)) (w' := v22) rfl (by rfl) rfl (by rw [hv22, ← hg8]; go_simp) ?_
      have HBv22 := hid (HBv1.out.trans (bv22.mono HBv1.out.size))
      have Hv22 := hid ((bv22.block g (Array.getElem?_eq_some_iff.1 Hv1.out).1).trans Hv1.out)
      have Kv22 := hid kv22
      have HNE := hid (show g ≠ g8 by have := (Array.getElem?_eq_some_iff.1 Hv1.out).1; omega)
      have HG8 := hid (show w.heap.size ≤ g8 by have := HBv1.out.size; omega)
      have HBA := hid bv22
      have HG8E := hid hg8
      refine ⟨trivial, ?_⟩
      clear bv22 kv22 hv22 hg8
      simp only [List.setIfInBounds_toArray, List.set_cons_zero, List.set_cons_succ]
      refine nany_one 4 (by kernel_rfl) ?_
      refine nop_callE 25 (f := 22) (args := #[.slice a n c, .int .i64 16, .int .i64 4]) (R := fun v w' => v = .int .i64 xd ∧ Below v22.heap.size v22 w') rfl (by rfl) rfl (by go_simp) ((HNU.out v22 HBv22.out 16 4 (by omega) (by omega)).mono (fun e w' h => ⟨_, h.1.trans (by rw [Hxd.out]), rfl, h.2⟩)) ?_
      rintro v v23 ⟨rfl, hbv23⟩
      refine ⟨trivial, ?_⟩
      have HBv23 := hid (HBv22.out.trans (hbv23.mono HBv22.out.size))
      have Hv23 := hid ((hbv23.block g (Array.getElem?_eq_some_iff.1 Hv22.out).1).trans Hv22.out)
      have Kv23 := hid ((hbv23.block g8 (Array.getElem?_eq_some_iff.1 Kv22.out).1).trans Kv22.out)
      clear hbv23
      simp only [List.setIfInBounds_toArray, List.set_cons_zero, List.set_cons_succ]
      refine nany_take 5 26 (.int .u32 xd) rfl rfl (by kernel_rfl) (by kernel_rfl) (by kernel_rfl) (fun _ _ _ h => h) (Or.inl ⟨by rfl, ?_⟩) trivial ?_
      · rintro w' -
        go_simp
      simp only [List.setIfInBounds_toArray, List.set_cons_zero, List.set_cons_succ]
      refine nany_one 7 (by kernel_rfl) ?_
      refine nop_callE 28 (f := 22) (args := #[.slice a n c, .int .i64 9, .int .i64 1]) (R := fun v w' => v = .int .i64 xp ∧ Below v23.heap.size v23 w') rfl (by rfl) rfl (by go_simp) ((HNU.out v23 HBv23.out 9 1 (by omega) (by omega)).mono (fun e w' h => ⟨_, h.1.trans (by rw [Hxp.out]), rfl, h.2⟩)) ?_
      rintro v v24 ⟨rfl, hbv24⟩
      refine ⟨trivial, ?_⟩
      have HBv24 := hid (HBv23.out.trans (hbv24.mono HBv23.out.size))
      have Hv24 := hid ((hbv24.block g (Array.getElem?_eq_some_iff.1 Hv23.out).1).trans Hv23.out)
      have Kv24 := hid ((hbv24.block g8 (Array.getElem?_eq_some_iff.1 Kv23.out).1).trans Kv23.out)
      clear hbv24
      simp only [List.setIfInBounds_toArray, List.set_cons_zero, List.set_cons_succ]
      refine nany_one 9 (by kernel_rfl) ?_
      refine nop_callE 30 (f := 22) (args := #[.slice a n c, .int .i64 4, .int .i64 2]) (R := fun v w' => v = .int .i64 xi ∧ Below v24.heap.size v24 w') rfl (by rfl) rfl (by go_simp) ((HNU.out v24 HBv24.out 4 2 (by omega) (by omega)).mono (fun e w' h => ⟨_, h.1.trans (by rw [Hxi.out]), rfl, h.2⟩)) ?_
      rintro v v25 ⟨rfl, hbv25⟩
      refine ⟨trivial, ?_⟩
      have HBv25 := hid (HBv24.out.trans (hbv25.mono HBv24.out.size))
      have Hv25 := hid ((hbv25.block g (Array.getElem?_eq_some_iff.1 Hv24.out).1).trans Hv24.out)
      have Kv25 := hid ((hbv25.block g8 (Array.getElem?_eq_some_iff.1 Kv24.out).1).trans Kv24.out)
      clear hbv25
      simp only [List.setIfInBounds_toArray, List.set_cons_zero, List.set_cons_succ]
      refine nany_one 17 (by kernel_rfl) ?_
      refine nop_callE 38 (f := 22) (args := #[.slice a n c, .int .i64 8, .int .i64 1]) (R := fun v w' => v = .int .i64 xt ∧ Below v25.heap.size v25 w') rfl (by rfl) rfl (by go_simp) ((HNU.out v25 HBv25.out 8 1 (by omega) (by omega)).mono (fun e w' h => ⟨_, h.1.trans (by rw [Hxt.out]), rfl, h.2⟩)) ?_
      rintro v v26 ⟨rfl, hbv26⟩
      refine ⟨trivial, ?_⟩
      have HBv26 := hid (HBv25.out.trans (hbv26.mono HBv25.out.size))
      have Hv26 := hid ((hbv26.block g (Array.getElem?_eq_some_iff.1 Hv25.out).1).trans Hv25.out)
      have Kv26 := hid ((hbv26.block g8 (Array.getElem?_eq_some_iff.1 Kv25.out).1).trans Kv25.out)
      clear hbv26
      simp only [List.setIfInBounds_toArray, List.set_cons_zero, List.set_cons_succ]
      refine nany_one 22 (by kernel_rfl) ?_
      refine nop_callE 43 (f := 23) (args := #[.slice aC nb (c - hN)]) (R := fun v w' => ∃ a2 c2, v = .slice a2 nb c2 ∧ By w' (New v26) a2 body ∧ nb ≤ c2 ∧ Below v26.heap.size v26 w') rfl (by rfl) rfl (by go_simp) ((HCL.out v26 HBv26.out).mono (fun e w' h => by obtain ⟨a2, c2, h1, h2⟩ := h; exact ⟨_, h1, a2, c2, rfl, h2⟩)) ?_
      rintro v v27 ⟨a2, c2, rfl, hy9, hc9, hbv27⟩
      refine ⟨trivial, ?_⟩
      have HBv27 := hid (HBv26.out.trans (hbv27.mono HBv26.out.size))
      have Hv27 := hid ((hbv27.block g (Array.getElem?_eq_some_iff.1 Hv26.out).1).trans Hv26.out)
      have Kv27 := hid ((hbv27.block g8 (Array.getElem?_eq_some_iff.1 Kv26.out).1).trans Kv26.out)
      have HY := hid (hy9.weak (S' := fun b => v26.heap.size ≤ b ∧ b < v27.heap.size) (fun b hb hl => ⟨hb, hl⟩))
      have HC9 := hid hc9
      have HSZ := hid HBv26.out.size
      clear hbv27 hy9 hc9
      simp only [List.setIfInBounds_toArray, List.set_cons_zero, List.set_cons_succ]
      refine nany_take 23 44 (.agg (pkC xs xd xp xi o mo false xt (.slice a2 nb c2))) rfl rfl (by kernel_rfl) (by kernel_rfl) (by kernel_rfl) (fun _ _ _ h => h) (Or.inl ⟨by rfl, ?_⟩) trivial ?_
      · rintro w' -
        go_simp
      simp only [List.setIfInBounds_toArray, List.set_cons_zero, List.set_cons_succ]
      have HYF := hid (HY.out.weak (S' := fun b => w.heap.size ≤ b ∧ b ≠ g ∧ b ≠ g8) (fun b hb _ => ⟨Nat.le_trans HSZ.out hb.1, fun e => by have := (Array.getElem?_eq_some_iff.1 Hv26.out).1; rw [e] at hb; exact absurd this (Nat.not_lt.2 hb.1), fun e => by have := (Array.getElem?_eq_some_iff.1 Kv26.out).1; rw [e] at hb; exact absurd this (Nat.not_lt.2 hb.1)⟩))
      obtain ⟨W11, hW11⟩ : ∃ W, W = v27.setRow g8 (pkC xs xd xp xi o mo false xt (.slice a2 nb c2)) := ⟨_, rfl⟩
      refine nany_one 25 (by kernel_rfl) ?_
      refine nop_skip (w' := W11) rfl (by rfl) rfl (by rw [hW11]; exact ex_store 25 _ _ rfl g8 (pkC xs xd xp xi o mo false xt (.slice a2 nb c2)) rfl rfl 25 _ Kv27.out sizePk rfl (pkC_one _ _ _ _ _ _ _ _ _ rfl)) ?_
      refine ⟨trivial, ?_⟩
      refine wpAnyH_done (by kernel_rfl) ?_ _
      have h11 : W11.heap[g8]? = some (.cells (pkC xs xd xp xi o mo false xt (.slice a2 nb c2)) 25 (0, 0)) := by rw [hW11]; exact setRow_heap _ _ _ _ _ _ Kv27.out
      have h11g : W11.heap[g]? = some (.cells (pkC 0 0 0 0 0 false false 0 (.slice none 0 0)) 25 (0, 0)) := by rw [hW11, setRow_other _ _ _ _ HNE.out]; exact Hv27.out
      have hB11 : Below w.heap.size w W11 := by rw [hW11]; exact (setRow_mods _ _ _).to_below HBv27.out HBv27.out.size (fun x hx => by rw [hx]; exact HG8.out)
      have hy11 : By W11 (fun b => w.heap.size ≤ b ∧ b ≠ g ∧ b ≠ g8) a2 body := by rw [hW11]; exact (HYF.out.keep (fun x hx hl => setRow_other _ _ _ _ hx.2.2))
      have HW8 := hid (isWhole_any W11 xs xd xp xi o mo false xt (.slice a2 nb c2))
      have H11 := hid h11
      have H11g := hid h11g
      have HB11 := hid hB11
      have HY11 := hid hy11
      clear h11 h11g hB11 hy11 hW11 hS
      go_wp2_with (first
    | (refine wpList_load_row rfl 25 _ rfl g8 rfl 25 _ (0, 0) _ H11.out Try.underlying25 rfl sizePk ?_)
    | (go_at_call 24; refine HW8.out.mono ?_; rintro e w12 ⟨rfl, hb12⟩; have h12 := (hb12.block g8 (Array.getElem?_eq_some_iff.1 H11.out).1).trans H11.out; have h12g := (hb12.block g (Array.getElem?_eq_some_iff.1 H11g.out).1).trans H11g.out; have hB12 := HB11.out.trans (hb12.mono HB11.out.size); obtain ⟨W13, hW13, h13, b13, k13, s13⟩ := setP h12 6 (.bool (decide (o = 0) && !mo)) w.heap.size w hB12 HG8.out; have c126 := cell_of h12 (i := 6) (v := .bool false) rfl; have f126 := froz_of h12 6; have H13 := hid h13; have H13g := hid ((k13 g HNE.out).trans h12g); have HB13 := hid b13; have HY13 := hid ((HY11.out.later hb12).keep (w' := W13) (fun b hb hl => k13 b hb.2.2)); have HW13 := hW13.symm; clear h12 h12g hB12 hb12 h13 b13 k13 s13 hW13 HW8)
    | (refine wpList_load_row rfl 25 _ rfl g8 rfl 25 _ (0, 0) _ H13.out Try.underlying25 rfl sizePk ?_)
    | (refine wpList_store_row rfl 25 _ _ rfl g (pkC xs xd xp xi o mo (decide (o = 0) && !mo) xt (.slice a2 nb c2)) rfl rfl 25 _ H13g.out sizePk rfl (pkC_one _ _ _ _ _ _ _ _ _ rfl) ?_))
      refine bodyPost_ret (results_ct rfl _ _ g (pkC xs xd xp xi o mo (decide (o = 0) && !mo) xt (.slice a2 nb c2)) _ _ rfl (setRow_heap _ g _ _ _ _ H13g.out) Try.underlying25 sizePk) rfl ⟨a2, c2, rfl, (HY13.out.keep (fun x hx hl => setRow_other W13 g x _ hx.2.1)).weak (fun x hx _ => hx.1), HC9.out, ?_⟩
      exact (setRow_mods W13 g _).to_below HB13.out HB13.out.size (fun x hx => by rw [hx, HG.out]; exact Nat.le_refl _)
  · obtain ⟨v28, hv28, kv28, bv28⟩ := boxP v0 (pkC 0 0 0 0 0 false false 0 (.slice none 0 0)) 25
    obtain ⟨g8, hg8⟩ : ∃ g, v0.heap.size = g := ⟨_, rfl⟩
    rw [hg8] at kv28
    refine nop_value' 8 (v := .pointer (some ⟨g8, 0, none⟩)) (w' := v28) rfl (by rfl) rfl (by rw [hv28, ← hg8]; go_simp) ?_
    have HBv28 := hid (HBv0.out.trans (bv28.mono HBv0.out.size))
    have Hv28 := hid ((bv28.block g (Array.getElem?_eq_some_iff.1 Hv0.out).1).trans Hv0.out)
    have Kv28 := hid kv28
    have HNE := hid (show g ≠ g8 by have := (Array.getElem?_eq_some_iff.1 Hv0.out).1; omega)
    have HG8 := hid (show w.heap.size ≤ g8 by have := HBv0.out.size; omega)
    have HBA := hid bv28
    have HG8E := hid hg8
    refine ⟨trivial, ?_⟩
    clear bv28 kv28 hv28 hg8
    simp only [List.setIfInBounds_toArray, List.set_cons_zero, List.set_cons_succ]
    refine nany_one 1 (by kernel_rfl) ?_
    refine nop_callE 22 (f := 22) (args := #[.slice a n c, .int .i64 12, .int .i64 4]) (R := fun v w' => v = .int .i64 xs ∧ Below v28.heap.size v28 w') rfl (by rfl) rfl (by go_simp) ((HNU.out v28 HBv28.out 12 4 (by omega) (by omega)).mono (fun e w' h => ⟨_, h.1.trans (by rw [Hxs.out]), rfl, h.2⟩)) ?_
    rintro v v29 ⟨rfl, hbv29⟩
    refine ⟨trivial, ?_⟩
    have HBv29 := hid (HBv28.out.trans (hbv29.mono HBv28.out.size))
    have Hv29 := hid ((hbv29.block g (Array.getElem?_eq_some_iff.1 Hv28.out).1).trans Hv28.out)
    have Kv29 := hid ((hbv29.block g8 (Array.getElem?_eq_some_iff.1 Kv28.out).1).trans Kv28.out)
    clear hbv29
    simp only [List.setIfInBounds_toArray, List.set_cons_zero, List.set_cons_succ]
    refine nany_take 2 23 (.int .u32 xs) rfl rfl (by kernel_rfl) (by kernel_rfl) (by kernel_rfl) (fun _ _ _ h => h) (Or.inl ⟨by rfl, ?_⟩) trivial ?_
    · rintro w' -
      go_simp
    simp only [List.setIfInBounds_toArray, List.set_cons_zero, List.set_cons_succ]
    refine nany_one 4 (by kernel_rfl) ?_
    refine nop_callE 25 (f := 22) (args := #[.slice a n c, .int .i64 16, .int .i64 4]) (R := fun v w' => v = .int .i64 xd ∧ Below v29.heap.size v29 w') rfl (by rfl) rfl (by go_simp) ((HNU.out v29 HBv29.out 16 4 (by omega) (by omega)).mono (fun e w' h => ⟨_, h.1.trans (by rw [Hxd.out]), rfl, h.2⟩)) ?_
    rintro v v30 ⟨rfl, hbv30⟩
    refine ⟨trivial, ?_⟩
    have HBv30 := hid (HBv29.out.trans (hbv30.mono HBv29.out.size))
    have Hv30 := hid ((hbv30.block g (Array.getElem?_eq_some_iff.1 Hv29.out).1).trans Hv29.out)
    have Kv30 := hid ((hbv30.block g8 (Array.getElem?_eq_some_iff.1 Kv29.out).1).trans Kv29.out)
    clear hbv30
    simp only [List.setIfInBounds_toArray, List.set_cons_zero, List.set_cons_succ]
    refine nany_take 5 26 (.int .u32 xd) rfl rfl (by kernel_rfl) (by kernel_rfl) (by kernel_rfl) (fun _ _ _ h => h) (Or.inl ⟨by rfl, ?_⟩) trivial ?_
    · rintro w' -
      go_simp
    simp only [List.setIfInBounds_toArray, List.set_cons_zero, List.set_cons_succ]
    refine nany_one 7 (by kernel_rfl) ?_
    refine nop_callE 28 (f := 22) (args := #[.slice a n c, .int .i64 9, .int .i64 1]) (R := fun v w' => v = .int .i64 xp ∧ Below v30.heap.size v30 w') rfl (by rfl) rfl (by go_simp) ((HNU.out v30 HBv30.out 9 1 (by omega) (by omega)).mono (fun e w' h => ⟨_, h.1.trans (by rw [Hxp.out]), rfl, h.2⟩)) ?_
    rintro v v31 ⟨rfl, hbv31⟩
    refine ⟨trivial, ?_⟩
    have HBv31 := hid (HBv30.out.trans (hbv31.mono HBv30.out.size))
    have Hv31 := hid ((hbv31.block g (Array.getElem?_eq_some_iff.1 Hv30.out).1).trans Hv30.out)
    have Kv31 := hid ((hbv31.block g8 (Array.getElem?_eq_some_iff.1 Kv30.out).1).trans Kv30.out)
    clear hbv31
    simp only [List.setIfInBounds_toArray, List.set_cons_zero, List.set_cons_succ]
    refine nany_one 9 (by kernel_rfl) ?_
    refine nop_callE 30 (f := 22) (args := #[.slice a n c, .int .i64 4, .int .i64 2]) (R := fun v w' => v = .int .i64 xi ∧ Below v31.heap.size v31 w') rfl (by rfl) rfl (by go_simp) ((HNU.out v31 HBv31.out 4 2 (by omega) (by omega)).mono (fun e w' h => ⟨_, h.1.trans (by rw [Hxi.out]), rfl, h.2⟩)) ?_
    rintro v v32 ⟨rfl, hbv32⟩
    refine ⟨trivial, ?_⟩
    have HBv32 := hid (HBv31.out.trans (hbv32.mono HBv31.out.size))
    have Hv32 := hid ((hbv32.block g (Array.getElem?_eq_some_iff.1 Hv31.out).1).trans Hv31.out)
    have Kv32 := hid ((hbv32.block g8 (Array.getElem?_eq_some_iff.1 Kv31.out).1).trans Kv31.out)
    clear hbv32
    simp only [List.setIfInBounds_toArray, List.set_cons_zero, List.set_cons_succ]
    refine nany_one 17 (by kernel_rfl) ?_
    refine nop_callE 38 (f := 22) (args := #[.slice a n c, .int .i64 8, .int .i64 1]) (R := fun v w' => v = .int .i64 xt ∧ Below v32.heap.size v32 w') rfl (by rfl) rfl (by go_simp) ((HNU.out v32 HBv32.out 8 1 (by omega) (by omega)).mono (fun e w' h => ⟨_, h.1.trans (by rw [Hxt.out]), rfl, h.2⟩)) ?_
    rintro v v33 ⟨rfl, hbv33⟩
    refine ⟨trivial, ?_⟩
    have HBv33 := hid (HBv32.out.trans (hbv33.mono HBv32.out.size))
    have Hv33 := hid ((hbv33.block g (Array.getElem?_eq_some_iff.1 Hv32.out).1).trans Hv32.out)
    have Kv33 := hid ((hbv33.block g8 (Array.getElem?_eq_some_iff.1 Kv32.out).1).trans Kv32.out)
    clear hbv33
    simp only [List.setIfInBounds_toArray, List.set_cons_zero, List.set_cons_succ]
    refine nany_one 22 (by kernel_rfl) ?_
    refine nop_callE 43 (f := 23) (args := #[.slice aC nb (c - hN)]) (R := fun v w' => ∃ a2 c2, v = .slice a2 nb c2 ∧ By w' (New v33) a2 body ∧ nb ≤ c2 ∧ Below v33.heap.size v33 w') rfl (by rfl) rfl (by go_simp) ((HCL.out v33 HBv33.out).mono (fun e w' h => by obtain ⟨a2, c2, h1, h2⟩ := h; exact ⟨_, h1, a2, c2, rfl, h2⟩)) ?_
    rintro v v34 ⟨a2, c2, rfl, hy9, hc9, hbv34⟩
    refine ⟨trivial, ?_⟩
    have HBv34 := hid (HBv33.out.trans (hbv34.mono HBv33.out.size))
    have Hv34 := hid ((hbv34.block g (Array.getElem?_eq_some_iff.1 Hv33.out).1).trans Hv33.out)
    have Kv34 := hid ((hbv34.block g8 (Array.getElem?_eq_some_iff.1 Kv33.out).1).trans Kv33.out)
    have HY := hid (hy9.weak (S' := fun b => v33.heap.size ≤ b ∧ b < v34.heap.size) (fun b hb hl => ⟨hb, hl⟩))
    have HC9 := hid hc9
    have HSZ := hid HBv33.out.size
    clear hbv34 hy9 hc9
    simp only [List.setIfInBounds_toArray, List.set_cons_zero, List.set_cons_succ]
    refine nany_take 23 44 (.agg (pkC xs xd xp xi o mo false xt (.slice a2 nb c2))) rfl rfl (by kernel_rfl) (by kernel_rfl) (by kernel_rfl) (fun _ _ _ h => h) (Or.inl ⟨by rfl, ?_⟩) trivial ?_
    · rintro w' -
      go_simp
    simp only [List.setIfInBounds_toArray, List.set_cons_zero, List.set_cons_succ]
    have HYF := hid (HY.out.weak (S' := fun b => w.heap.size ≤ b ∧ b ≠ g ∧ b ≠ g8) (fun b hb _ => ⟨Nat.le_trans HSZ.out hb.1, fun e => by have := (Array.getElem?_eq_some_iff.1 Hv33.out).1; rw [e] at hb; exact absurd this (Nat.not_lt.2 hb.1), fun e => by have := (Array.getElem?_eq_some_iff.1 Kv33.out).1; rw [e] at hb; exact absurd this (Nat.not_lt.2 hb.1)⟩))
    obtain ⟨W11, hW11⟩ : ∃ W, W = v34.setRow g8 (pkC xs xd xp xi o mo false xt (.slice a2 nb c2)) := ⟨_, rfl⟩
    refine nany_one 25 (by kernel_rfl) ?_
    refine nop_skip (w' := W11) rfl (by rfl) rfl (by rw [hW11]; exact ex_store 25 _ _ rfl g8 (pkC xs xd xp xi o mo false xt (.slice a2 nb c2)) rfl rfl 25 _ Kv34.out sizePk rfl (pkC_one _ _ _ _ _ _ _ _ _ rfl)) ?_
    refine ⟨trivial, ?_⟩
    refine wpAnyH_done (by kernel_rfl) ?_ _
    have h11 : W11.heap[g8]? = some (.cells (pkC xs xd xp xi o mo false xt (.slice a2 nb c2)) 25 (0, 0)) := by rw [hW11]; exact setRow_heap _ _ _ _ _ _ Kv34.out
    have h11g : W11.heap[g]? = some (.cells (pkC 0 0 0 0 0 false false 0 (.slice none 0 0)) 25 (0, 0)) := by rw [hW11, setRow_other _ _ _ _ HNE.out]; exact Hv34.out
    have hB11 : Below w.heap.size w W11 := by rw [hW11]; exact (setRow_mods _ _ _).to_below HBv34.out HBv34.out.size (fun x hx => by rw [hx]; exact HG8.out)
    have hy11 : By W11 (fun b => w.heap.size ≤ b ∧ b ≠ g ∧ b ≠ g8) a2 body := by rw [hW11]; exact (HYF.out.keep (fun x hx hl => setRow_other _ _ _ _ hx.2.2))
    have HW8 := hid (isWhole_any W11 xs xd xp xi o mo false xt (.slice a2 nb c2))
    have H11 := hid h11
    have H11g := hid h11g
    have HB11 := hid hB11
    have HY11 := hid hy11
    clear h11 h11g hB11 hy11 hW11 hS
    go_wp2_with (first
    | (refine wpList_load_row rfl 25 _ rfl g8 rfl 25 _ (0, 0) _ H11.out Try.underlying25 rfl sizePk ?_)
    | (go_at_call 24; refine HW8.out.mono ?_; rintro e w12 ⟨rfl, hb12⟩; have h12 := (hb12.block g8 (Array.getElem?_eq_some_iff.1 H11.out).1).trans H11.out; have h12g := (hb12.block g (Array.getElem?_eq_some_iff.1 H11g.out).1).trans H11g.out; have hB12 := HB11.out.trans (hb12.mono HB11.out.size); obtain ⟨W13, hW13, h13, b13, k13, s13⟩ := setP h12 6 (.bool (decide (o = 0) && !mo)) w.heap.size w hB12 HG8.out; have c126 := cell_of h12 (i := 6) (v := .bool false) rfl; have f126 := froz_of h12 6; have H13 := hid h13; have H13g := hid ((k13 g HNE.out).trans h12g); have HB13 := hid b13; have HY13 := hid ((HY11.out.later hb12).keep (w' := W13) (fun b hb hl => k13 b hb.2.2)); have HW13 := hW13.symm; clear h12 h12g hB12 hb12 h13 b13 k13 s13 hW13 HW8)
    | (refine wpList_load_row rfl 25 _ rfl g8 rfl 25 _ (0, 0) _ H13.out Try.underlying25 rfl sizePk ?_)
    | (refine wpList_store_row rfl 25 _ _ rfl g (pkC xs xd xp xi o mo (decide (o = 0) && !mo) xt (.slice a2 nb c2)) rfl rfl 25 _ H13g.out sizePk rfl (pkC_one _ _ _ _ _ _ _ _ _ rfl) ?_))
    refine bodyPost_ret (results_ct rfl _ _ g (pkC xs xd xp xi o mo (decide (o = 0) && !mo) xt (.slice a2 nb c2)) _ _ rfl (setRow_heap _ g _ _ _ _ H13g.out) Try.underlying25 sizePk) rfl ⟨a2, c2, rfl, (HY13.out.keep (fun x hx hl => setRow_other W13 g x _ hx.2.1)).weak (fun x hx _ => hx.1), HC9.out, ?_⟩
    exact (setRow_mods W13 g _).to_below HB13.out HB13.out.size (fun x hx => by rw [hx, HG.out]; exact Nat.le_refl _)
end Go.Proofs.Ytgdajplloamjcaa
