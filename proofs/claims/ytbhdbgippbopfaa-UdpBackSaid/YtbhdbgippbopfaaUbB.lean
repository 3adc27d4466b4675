/- Package udp's Parse. -/
import Derived.Test.YtbhdbgippbopfaaUbA
namespace Go.Proofs.Ytbhdbgippbopfaa
open Go.RowKit Go.Maps
set_option linter.unusedVariables false
/-- The sum that a datagram bears, its data, and what is read of bytes. -/
def toN (l : List Int) : Int := beOf ((l.drop 6).take 2)
def daN (l : List Int) : List Int := (l.drop 8).take ((leN l).toNat - 8)
def suN (s d : Int) (l : List Int) : Int := udS s d (l.take 6 ++ daN l)
def prE (s d : Int) (l : List Int) : Int := if ¬ exE l = 0 then exE l else if ¬ toN l = 0 ∧ ¬ toN l = suN s d l then 13 else 0
def prF (s d : Int) (l : List Int) : Int := if prE s d l = 0 then beOf ((l.drop 0).take 2) else 0
def prT (s d : Int) (l : List Int) : Int := if prE s d l = 0 then beOf ((l.drop 2).take 2) else 0
def prD (s d : Int) (l : List Int) : List Int := if prE s d l = 0 then daN l else []
set_option maxRecDepth 100000 in
set_option maxHeartbeats 4000000 in
theorem Parse_bad1 (w : World) (s d : Int) (a : Option Addr) (n c : Nat) (l : List Int) (hn : l.length = n) (hl : n ≤ 800000) (hc : n ≤ c) (hb : Bytes w a l) (he : ¬ exE l = 0) :
    Calls Try.prog 7 #[.int .u32 s, .int .u32 d, .slice a n c] w fun e w' => e = .returned (.tuple #[.agg (dgC 0 0 (.slice none 0 0)), .int .i64 (exE l)]) ∧ Below w.heap.size w w' := by
  obtain ⟨W1, hW1, h1, b1⟩ := boxP w (dgC 0 0 (.slice none 0 0)) 25
  obtain ⟨g, hg⟩ : ∃ g, w.heap.size = g := ⟨_, rfl⟩
  rw [hg] at h1
  have HEX := extent_any W1 a n c l hn hl hc (hb.later b1)
  have hE : (exE l != 0) = true := bne_iff_ne.2 he
  generalize exE l = E at *
  have HEX := hid HEX
  have H1 := hid h1
  have HB1 := hid b1
  have HG := hid hg
  have HW := hW1.symm
  clear h1 b1 hW1 hn hb he
  go_enter Try.func7, Try.ntmps7
  go_wp2_with (first
    | (go_at_call 13; refine HEX.out.mono ?_; rintro e w2 ⟨x, ⟨rfl, -⟩, hb2⟩; have H2 := hid ((hb2.block g (Array.getElem?_eq_some_iff.1 H1.out).1).trans H1.out); have HB2 := hid (HB1.out.trans (hb2.mono HB1.out.size)); clear hb2 HEX)
    | (refine wpList_store_row rfl 25 _ _ rfl g (dgC 0 0 (.slice none 0 0)) rfl rfl 25 _ H2.out sizeDg rfl (dgC_one _ _ _ _ _) ?_))
  refine bodyPost_ret (results_ct rfl _ _ g (dgC 0 0 (.slice none 0 0)) _ _ rfl (setRow_heap _ g _ _ _ _ H2.out) Try.underlying25 sizeDg) rfl ⟨rfl, ?_⟩
  have hbw := (setRow_mods w2 g (dgC 0 0 (.slice none 0 0))).to_below HB2.out HB2.out.size (fun x hx => by rw [hx, HG.out]; exact Nat.le_refl _)
  first | exact hbw | (rw [HG.out] at hbw; exact hbw)
set_option maxRecDepth 100000 in
set_option maxHeartbeats 16000000 in
theorem Parse_ok (w : World) (s d : Int) (a : Option Addr) (n c : Nat) (l : List Int) (hs : IsU s) (hd : IsU d) (hn : l.length = n) (hl : n ≤ 65535 + 4465) (hc : n ≤ c) (hb : Bytes w a l) (he : exE l = 0) (hp : toN l = 0 ∨ toN l = suN s d l) :
    Calls Try.prog 7 #[.int .u32 s, .int .u32 d, .slice a n c] w fun e w' => ∃ a2 c2, e = .returned (.tuple #[.agg (dgC (beOf ((l.drop 0).take 2)) (beOf ((l.drop 2).take 2)) (.slice a2 (daN l).length c2)), .int .i64 0]) ∧ By w' (New w) a2 (daN l) ∧ Below w.heap.size w w' := by
  obtain ⟨q0, q1, q2⟩ := exE_ok he
  obtain ⟨W1, hW1, h1, b1⟩ := boxP w (dgC 0 0 (.slice none 0 0)) 25
  obtain ⟨g, hg⟩ : ∃ g, w.heap.size = g := ⟨_, rfl⟩
  rw [hg] at h1
  have HEX := extent_any W1 a n c l hn (by omega) hc (hb.later b1)
  rw [he] at HEX
  have HNU : Hid (∀ W, Below w.heap.size w W → ∀ at_ : Nat, at_ + 2 ≤ 8 → Calls Try.prog 14 #[.slice a n c, .int .i64 at_] W fun e w' => e = .returned (.int .i64 (beOf ((l.drop at_).take 2))) ∧ Below W.heap.size W w') := hid (fun W hW at_ h8 => number_in W a n c l at_ hn hc (by omega) (by omega) (hb.later hW) at_ rfl)
  obtain ⟨xf, hxf⟩ : ∃ x, x = beOf ((l.drop 0).take 2) := ⟨_, rfl⟩
  obtain ⟨xt, hxt⟩ : ∃ x, x = beOf ((l.drop 2).take 2) := ⟨_, rfl⟩
  obtain ⟨tol, htol⟩ : ∃ x, x = toN l := ⟨_, rfl⟩
  have bt := be_cut_bd l 6 2 hb.isB (by omega)
  have bL := be_cut_bd l 4 2 hb.isB (by omega)
  have htol' : beOf ((l.drop 6).take 2) = tol := by rw [htol]; rfl
  have hL' : beOf ((l.drop 4).take 2) = leN l := rfl
  rw [htol'] at bt
  rw [hL'] at bL
  obtain ⟨data, hdata⟩ : ∃ x, x = daN l := ⟨_, rfl⟩
  obtain ⟨U, hU⟩ : ∃ x, x = suN s d l := ⟨_, rfl⟩
  obtain ⟨L, hL⟩ : ∃ x, x = leN l := ⟨_, rfl⟩
  obtain ⟨Ln, hLn⟩ : ∃ k : Nat, k = L.toNat := ⟨_, rfl⟩
  obtain ⟨nd, hnd⟩ : ∃ k : Nat, k = Ln - 8 := ⟨_, rfl⟩
  rw [← hL] at q1 q2 bL HEX
  have hdl : data.length = nd := by rw [hdata, hnd, hLn, hL]; unfold daN; rw [← hL]; simp; omega
  obtain ⟨a6, hcut6, hcb6⟩ := cut_h a n c 6 (by omega) hc
  obtain ⟨a8, hcut8, hcb8⟩ := cut_lh a n c 8 Ln (by omega) (by omega) hc
  have hcut6' : ∀ W : World, (Instr.slice 23 (.slice a n c) none (some (.int .i64 6)) none).run Try.prog W = .ok (.slice a6 6 c) W := hcut6
  have hcut8' : ∀ W : World, (Instr.slice 23 (.slice a n c) (some (.int .i64 8)) (some (.int .i64 L)) none).run Try.prog W = .ok (.slice a8 nd (c - 8)) W := fun W => by
    have := hcut8 W
    rw [show ((Ln : Nat) : Int) = L by omega, ← hnd] at this
    exact this
  have hd8 : ∀ W, Below w.heap.size w W → Bytes W a8 data := fun W hW => by
    have := hcb8 W l hn (hb.later hW)
    rw [hdata]; unfold daN; rw [← hL, ← hLn]; exact this
  have HCL : Hid (∀ W, Below w.heap.size w W → Calls Try.prog 16 #[.slice a8 nd (c - 8)] W fun e w' => ∃ a2 c2, e = .returned (.slice a2 nd c2) ∧ By w' (New W) a2 data ∧ nd ≤ c2 ∧ Below W.heap.size W w') := hid (fun W hW => Clone_all W a8 nd (c - 8) data hdl (by omega) (hd8 W hW))
  have HSU : Hid (∀ (W : World) (X : Nat), Below w.heap.size w W → W.cell? ⟨X, 0, none⟩ = some (.slice a6 6 c) → W.cell? ⟨X, 1, none⟩ = some (.slice a8 nd (c - 8)) → Calls Try.prog 15 #[.int .u32 s, .int .u32 d, .slice (some ⟨X, 0, none⟩) 2 2] W fun e w' => e = .returned (.int .u64 U) ∧ Below W.heap.size W w') := hid (fun W X hW x1 x2 => by
    have := sum_any W s d X a6 a8 6 nd c (c - 8) (l.take 6) data hs hd (by simp; omega) hdl (by omega) x1 x2 (hcb6 W l hn (hb.later hW)) (hd8 W hW)
    rw [hU]; unfold suN; rw [← hdata]; exact this)
  have Hxf := hid hxf.symm
  have Hxt := hid hxt.symm
  have Htol := hid htol'
  have HEX := hid HEX
  have H1 := hid h1
  have HB1 := hid b1
  have HG := hid hg
  have HW := hW1.symm
  have hw1 : IntKind.u64.wrap tol = tol := IntWalk.u64_in _ (by omega)
  rw [← hxf, ← hxt, ← hdata, hdl]
  rw [← htol, ← hU] at hp
  clear hxf hxt htol hU hL hdata hdl
  clear h1 b1 hW1 hn hb he q0 q1 q2 bt bL htol' hL' hLn hnd hcut6 hcut8 hcb6 hcb8 hd8 hs hd
  by_cases k0 : tol = 0
  · subst k0
    clear hp
    go_enter Try.func7, Try.ntmps7
    go_upto_region 5 with (first
      | (go_at_call 13; refine HEX.out.mono ?_; rintro e w2 ⟨x, ⟨rfl, hx⟩, hb2⟩; obtain rfl : L = x := (hx rfl).symm; have H2 := hid ((hb2.block g (Array.getElem?_eq_some_iff.1 H1.out).1).trans H1.out); have HB2 := hid (HB1.out.trans (hb2.mono HB1.out.size)); clear hb2 HEX hx)
      | (go_at_call 14; refine (HNU.out w2 HB2.out 6 (by omega)).mono ?_; rintro e w3 ⟨rfl, hb3⟩; rw [Htol.out]; have Hw3 := hid ((hb3.block g (Array.getElem?_eq_some_iff.1 H2.out).1).trans H2.out); have HBw3 := hid (HB2.out.trans (hb3.mono HB2.out.size)); clear hb3))
    try simp only [Act.put]
    refine wp_region_held_drew (S := fun _ => True) (by kernel_rfl) trivial (fun hS => ?_)
    obtain ⟨v0, hdv0⟩ : ∃ W, W = w3.drew := ⟨_, rfl⟩
    rw [← hdv0]
    have HBv0 := hid (show Below w.heap.size w v0 by rw [hdv0]; exact HBw3.out.drew)
    have Hv0 := hid (show v0.heap[g]? = some (.cells (dgC 0 0 (.slice none 0 0)) 25 (0, 0)) by rw [hdv0]; exact Hw3.out)
    clear hdv0
    refine nany_take 0 23 (.int .u64 0) rfl rfl (by kernel_rfl) (by kernel_rfl) (by kernel_rfl) (fun _ _ _ h => h) (Or.inl ⟨by rfl, ?_⟩) trivial ?_
    · rintro w' -
      go_simp
    simp only [List.setIfInBounds_toArray, List.set_cons_zero, List.set_cons_succ]
    refine nany_take 1 24 (.bool false) rfl rfl (by kernel_rfl) (by kernel_rfl) (by kernel_rfl) (fun _ _ _ h => h) (Or.inl ⟨by rfl, ?_⟩) trivial ?_
    · rintro w' -
      go_simp
    simp only [List.setIfInBounds_toArray, List.set_cons_zero, List.set_cons_succ]
    refine nany_take 2 25 (.bool false) rfl rfl (by kernel_rfl) (by kernel_rfl) (by kernel_rfl) (fun _ _ _ h => h) (Or.inl ⟨by rfl, ?_⟩) trivial ?_
    · rintro w' -
      go_simp
    simp only [List.setIfInBounds_toArray, List.set_cons_zero, List.set_cons_succ]
    refine nany_skip 3 26 rfl rfl (by kernel_rfl) (by kernel_rfl) (by kernel_rfl) (fun _ _ _ h => h) (by rfl) trivial ?_
    simp only [List.setIfInBounds_toArray, List.set_cons_zero, List.set_cons_succ]
    refine nany_skip 4 27 rfl rfl (by kernel_rfl) (by kernel_rfl) (by kernel_rfl) (fun _ _ _ h => h) (by rfl) trivial ?_
    simp only [List.setIfInBounds_toArray, List.set_cons_zero, List.set_cons_succ]
    refine nany_skip 5 28 rfl rfl (by kernel_rfl) (by kernel_rfl) (by kernel_rfl) (fun _ _ _ h => h) (by rfl) trivial ?_
    simp only [List.setIfInBounds_toArray, List.set_cons_zero, List.set_cons_succ]
    refine nany_skip 6 29 rfl rfl (by kernel_rfl) (by kernel_rfl) (by kernel_rfl) (fun _ _ _ h => h) (by rfl) trivial ?_
    simp only [List.setIfInBounds_toArray, List.set_cons_zero, List.set_cons_succ]
    refine nany_skip 7 30 rfl rfl (by kernel_rfl) (by kernel_rfl) (by kernel_rfl) (fun _ _ _ h => h) (by rfl) trivial ?_
    simp only [List.setIfInBounds_toArray, List.set_cons_zero, List.set_cons_succ]
    refine nany_skip 8 31 rfl rfl (by kernel_rfl) (by kernel_rfl) (by kernel_rfl) (fun _ _ _ h => h) (by rfl) trivial ?_
    simp only [List.setIfInBounds_toArray, List.set_cons_zero, List.set_cons_succ]
    refine nany_skip 9 32 rfl rfl (by kernel_rfl) (by kernel_rfl) (by kernel_rfl) (fun _ _ _ h => h) (by rfl) trivial ?_
    simp only [List.setIfInBounds_toArray, List.set_cons_zero, List.set_cons_succ]
    refine nany_skip 10 33 rfl rfl (by kernel_rfl) (by kernel_rfl) (by kernel_rfl) (fun _ _ _ h => h) (by rfl) trivial ?_
    simp only [List.setIfInBounds_toArray, List.set_cons_zero, List.set_cons_succ]
    refine nany_skip 11 34 rfl rfl (by kernel_rfl) (by kernel_rfl) (by kernel_rfl) (fun _ _ _ h => h) (by rfl) trivial ?_
    simp only [List.setIfInBounds_toArray, List.set_cons_zero, List.set_cons_succ]
    refine nany_skip 12 35 rfl rfl (by kernel_rfl) (by kernel_rfl) (by kernel_rfl) (fun _ _ _ h => h) (by rfl) trivial ?_
    simp only [List.setIfInBounds_toArray, List.set_cons_zero, List.set_cons_succ]
    refine nany_skip 13 36 rfl rfl (by kernel_rfl) (by kernel_rfl) (by kernel_rfl) (fun _ _ _ h => h) (by rfl) trivial ?_
    simp only [List.setIfInBounds_toArray, List.set_cons_zero, List.set_cons_succ]
    refine nany_take 14 37 (.bool false) rfl rfl (by kernel_rfl) (by kernel_rfl) (by kernel_rfl) (fun _ _ _ h => h) (Or.inl ⟨by rfl, ?_⟩) trivial ?_
    · rintro w' -
      go_simp
    simp only [List.setIfInBounds_toArray, List.set_cons_zero, List.set_cons_succ]
    refine wpAnyH_done (by kernel_rfl) ?_ _
    clear hS
    go_upto_region 7 with fail
    try simp only [Act.put]
    refine wp_region_held_drew (S := fun _ => True) (by kernel_rfl) trivial (fun hS => ?_)
    obtain ⟨x0, hdx0⟩ : ∃ W, W = v0.drew := ⟨_, rfl⟩
    rw [← hdx0]
    have HBx0 := hid (show Below w.heap.size w x0 by rw [hdx0]; exact HBv0.out.drew)
    have Hx0 := hid (show x0.heap[g]? = some (.cells (dgC 0 0 (.slice none 0 0)) 25 (0, 0)) by rw [hdx0]; exact Hv0.out)
    clear hdx0
    refine nany_take 0 39 (.slice a n c) rfl rfl (by kernel_rfl) (by kernel_rfl) (by kernel_rfl) (fun _ _ _ h => h) (Or.inl ⟨by rfl, ?_⟩) trivial ?_
    · rintro w' -
      go_simp
    simp only [List.setIfInBounds_toArray, List.set_cons_zero, List.set_cons_succ]
    refine nany_take 2 41 (.slice a n c) rfl rfl (by kernel_rfl) (by kernel_rfl) (by kernel_rfl) (fun _ _ _ h => h) (Or.inl ⟨by rfl, ?_⟩) trivial ?_
    · rintro w' -
      go_simp
    simp only [List.setIfInBounds_toArray, List.set_cons_zero, List.set_cons_succ]
    refine nany_take 4 43 (.slice a n c) rfl rfl (by kernel_rfl) (by kernel_rfl) (by kernel_rfl) (fun _ _ _ h => h) (Or.inl ⟨by rfl, ?_⟩) trivial ?_
    · rintro w' -
      go_simp
    simp only [List.setIfInBounds_toArray, List.set_cons_zero, List.set_cons_succ]
    refine nany_take 5 44 (.int .i64 L) rfl rfl (by kernel_rfl) (by kernel_rfl) (by kernel_rfl) (fun _ _ _ h => h) (Or.inl ⟨by rfl, ?_⟩) trivial ?_
    · rintro w' -
      go_simp
    simp only [List.setIfInBounds_toArray, List.set_cons_zero, List.set_cons_succ]
    refine nany_take 6 45 (.slice a8 nd (c - 8)) rfl rfl (by kernel_rfl) (by kernel_rfl) (by kernel_rfl) (fun _ _ _ h => h) (Or.inl ⟨by rfl, ?_⟩) trivial ?_
    · rintro w' -
      go_simp
    simp only [List.setIfInBounds_toArray, List.set_cons_zero, List.set_cons_succ]
    refine nany_one 1 (by kernel_rfl) ?_
    refine nop_callE 40 (f := 14) (args := #[.slice a n c, .int .i64 0]) (R := fun v w' => v = .int .i64 xf ∧ Below x0.heap.size x0 w') rfl (by rfl) rfl (by go_simp) ((HNU.out x0 HBx0.out 0 (by omega)).mono (fun e w' h => ⟨_, h.1.trans (by rw [Hxf.out]), rfl, h.2⟩)) ?_
    rintro v x1 ⟨rfl, hbx1⟩
    refine ⟨trivial, ?_⟩
    simp only [List.setIfInBounds_toArray, List.set_cons_zero, List.set_cons_succ]
    have HBx1 := hid (HBx0.out.trans (hbx1.mono HBx0.out.size))
    have Hx1 := hid ((hbx1.block g (Array.getElem?_eq_some_iff.1 Hx0.out).1).trans Hx0.out)
    clear hbx1
    refine nany_one 3 (by kernel_rfl) ?_
    refine nop_callE 42 (f := 14) (args := #[.slice a n c, .int .i64 2]) (R := fun v w' => v = .int .i64 xt ∧ Below x1.heap.size x1 w') rfl (by rfl) rfl (by go_simp) ((HNU.out x1 HBx1.out 2 (by omega)).mono (fun e w' h => ⟨_, h.1.trans (by rw [Hxt.out]), rfl, h.2⟩)) ?_
    rintro v x2 ⟨rfl, hbx2⟩
    refine ⟨trivial, ?_⟩
    simp only [List.setIfInBounds_toArray, List.set_cons_zero, List.set_cons_succ]
    have HBx2 := hid (HBx1.out.trans (hbx2.mono HBx1.out.size))
    have Hx2 := hid ((hbx2.block g (Array.getElem?_eq_some_iff.1 Hx1.out).1).trans Hx1.out)
    clear hbx2
    refine nany_one 7 (by kernel_rfl) ?_
    refine nop_callE 46 (f := 16) (args := #[.slice a8 nd (c - 8)]) (R := fun v w' => ∃ a2 c2, v = .slice a2 nd c2 ∧ By w' (New x2) a2 data ∧ nd ≤ c2 ∧ Below x2.heap.size x2 w') rfl (by rfl) rfl (by go_simp) ((HCL.out x2 HBx2.out).mono (fun e w' h => by obtain ⟨a2, c2, h1, h2⟩ := h; exact ⟨_, h1, a2, c2, rfl, h2⟩)) ?_
    rintro v x3 ⟨a2, c2, rfl, hy9, hc9, hbx3⟩
    refine ⟨trivial, ?_⟩
    simp only [List.setIfInBounds_toArray, List.set_cons_zero, List.set_cons_succ]
    have HBx3 := hid (HBx2.out.trans (hbx3.mono HBx2.out.size))
    have Hx3 := hid ((hbx3.block g (Array.getElem?_eq_some_iff.1 Hx2.out).1).trans Hx2.out)
    have HY := hid hy9
    have HLX := hid (Nat.lt_of_lt_of_le (Array.getElem?_eq_some_iff.1 Hx2.out).1 (Nat.le_refl _))
    have HSZ := hid HBx2.out.size
    clear hbx3 hy9 hc9
    refine nany_take 8 47 (.agg (dgC xf xt (.slice a2 nd c2))) rfl rfl (by kernel_rfl) (by kernel_rfl) (by kernel_rfl) (fun _ _ _ h => h) (Or.inl ⟨by rfl, ?_⟩) trivial ?_
    · rintro w' -
      go_simp
    simp only [List.setIfInBounds_toArray, List.set_cons_zero, List.set_cons_succ]
    obtain ⟨W11, hW11⟩ : ∃ W, W = x3.setRow g (dgC xf xt (.slice a2 nd c2)) := ⟨_, rfl⟩
    refine nany_one 9 (by kernel_rfl) ?_
    refine nop_skip (w' := W11) rfl (by rfl) rfl (by rw [hW11]; exact ex_store 25 _ _ rfl g (dgC xf xt (.slice a2 nd c2)) rfl rfl 25 _ Hx3.out sizeDg rfl (dgC_one _ _ _ _ _)) ?_
    refine ⟨trivial, ?_⟩
    refine nany_take 10 7 (.int .i64 0) rfl rfl (by kernel_rfl) (by kernel_rfl) (by kernel_rfl) (fun _ _ _ h => h) (Or.inl ⟨by rfl, ?_⟩) trivial ?_
    · rintro w' -
      go_simp
    simp only [List.setIfInBounds_toArray, List.set_cons_zero, List.set_cons_succ]
    refine wpAnyH_done (by kernel_rfl) ?_ _
    have H11 := hid (show W11.heap[g]? = some (.cells (dgC xf xt (.slice a2 nd c2)) 25 (0, 0)) by rw [hW11]; exact setRow_heap _ _ _ _ _ _ Hx3.out)
    have HB11 := hid (show Below w.heap.size w W11 by rw [hW11]; exact (setRow_mods _ _ _).to_below HBx3.out HBx3.out.size (fun x hx => by rw [hx, HG.out]; exact Nat.le_refl _))
    have HY11 := hid (show By W11 (New x2) a2 data by rw [hW11]; exact HY.out.keep (fun x hx hl => setRow_other _ _ _ _ (fun e => by have := HLX.out; rw [e] at hx; exact absurd this (Nat.not_lt.2 hx))))
    clear hW11 hS
    go_wp2
    refine bodyPost_ret (results_ct rfl _ _ g (dgC xf xt (.slice a2 nd c2)) _ _ rfl H11.out Try.underlying25 sizeDg) rfl ⟨a2, c2, rfl, HY11.out.weak (fun x hx _ => Nat.le_trans HSZ.out hx), ?_⟩
    have h2 := HB11.out
    first | exact h2 | (rw [HG.out] at h2; exact h2)
  · obtain rfl : tol = U := by rcases hp with h | h; exact absurd h k0; exact h
    have k0b : (tol != 0) = true := bne_iff_ne.2 k0
    clear hp k0
    go_enter Try.func7, Try.ntmps7
    go_upto_region 5 with (first
      | (go_at_call 13; refine HEX.out.mono ?_; rintro e w2 ⟨x, ⟨rfl, hx⟩, hb2⟩; obtain rfl : L = x := (hx rfl).symm; have H2 := hid ((hb2.block g (Array.getElem?_eq_some_iff.1 H1.out).1).trans H1.out); have HB2 := hid (HB1.out.trans (hb2.mono HB1.out.size)); clear hb2 HEX hx)
      | (go_at_call 14; refine (HNU.out w2 HB2.out 6 (by omega)).mono ?_; rintro e w3 ⟨rfl, hb3⟩; rw [Htol.out]; have Hw3 := hid ((hb3.block g (Array.getElem?_eq_some_iff.1 H2.out).1).trans H2.out); have HBw3 := hid (HB2.out.trans (hb3.mono HB2.out.size)); clear hb3))
    try simp only [Act.put]
    refine wp_region_held_drew (S := fun _ => True) (by kernel_rfl) trivial (fun hS => ?_)
    obtain ⟨v0, hdv0⟩ : ∃ W, W = w3.drew := ⟨_, rfl⟩
    rw [← hdv0]
    have HBv0 := hid (show Below w.heap.size w v0 by rw [hdv0]; exact HBw3.out.drew)
    have Hv0 := hid (show v0.heap[g]? = some (.cells (dgC 0 0 (.slice none 0 0)) 25 (0, 0)) by rw [hdv0]; exact Hw3.out)
    clear hdv0
    refine nany_take 0 23 (.int .u64 tol) rfl rfl (by kernel_rfl) (by kernel_rfl) (by kernel_rfl) (fun _ _ _ h => h) (Or.inl ⟨by rfl, ?_⟩) trivial ?_
    · rintro w' -
      go_simp
    simp only [List.setIfInBounds_toArray, List.set_cons_zero, List.set_cons_succ]
    refine nany_take 1 24 (.bool true) rfl rfl (by kernel_rfl) (by kernel_rfl) (by kernel_rfl) (fun _ _ _ h => h) (Or.inl ⟨by rfl, ?_⟩) trivial ?_
    · rintro w' -
      go_simp
    simp only [List.setIfInBounds_toArray, List.set_cons_zero, List.set_cons_succ]
    refine nany_take 2 25 (.bool true) rfl rfl (by kernel_rfl) (by kernel_rfl) (by kernel_rfl) (fun _ _ _ h => h) (Or.inl ⟨by rfl, ?_⟩) trivial ?_
    · rintro w' -
      go_simp
    simp only [List.setIfInBounds_toArray, List.set_cons_zero, List.set_cons_succ]
    refine nany_take 3 26 (.int .u64 tol) rfl rfl (by kernel_rfl) (by kernel_rfl) (by kernel_rfl) (fun _ _ _ h => h) (Or.inl ⟨by rfl, ?_⟩) trivial ?_
    · rintro w' -
      go_simp
    simp only [List.setIfInBounds_toArray, List.set_cons_zero, List.set_cons_succ]
    refine nany_take 4 27 (.int .u32 s) rfl rfl (by kernel_rfl) (by kernel_rfl) (by kernel_rfl) (fun _ _ _ h => h) (Or.inl ⟨by rfl, ?_⟩) trivial ?_
    · rintro w' -
      go_simp
    simp only [List.setIfInBounds_toArray, List.set_cons_zero, List.set_cons_succ]
    refine nany_take 5 28 (.int .u32 d) rfl rfl (by kernel_rfl) (by kernel_rfl) (by kernel_rfl) (fun _ _ _ h => h) (Or.inl ⟨by rfl, ?_⟩) trivial ?_
    · rintro w' -
      go_simp
    simp only [List.setIfInBounds_toArray, List.set_cons_zero, List.set_cons_succ]
    refine nany_take 6 29 (.slice a n c) rfl rfl (by kernel_rfl) (by kernel_rfl) (by kernel_rfl) (fun _ _ _ h => h) (Or.inl ⟨by rfl, ?_⟩) trivial ?_
    · rintro w' -
      go_simp
    simp only [List.setIfInBounds_toArray, List.set_cons_zero, List.set_cons_succ]
    refine nany_take 7 30 (.slice a6 6 c) rfl rfl (by kernel_rfl) (by kernel_rfl) (by kernel_rfl) (fun _ _ _ h => h) (Or.inl ⟨by rfl, ?_⟩) trivial ?_
    · rintro w' -
      go_simp
    simp only [List.setIfInBounds_toArray, List.set_cons_zero, List.set_cons_succ]
    refine nany_take 8 31 (.slice a n c) rfl rfl (by kernel_rfl) (by kernel_rfl) (by kernel_rfl) (fun _ _ _ h => h) (Or.inl ⟨by rfl, ?_⟩) trivial ?_
    · rintro w' -
      go_simp
    simp only [List.setIfInBounds_toArray, List.set_cons_zero, List.set_cons_succ]
    refine nany_take 9 32 (.int .i64 L) rfl rfl (by kernel_rfl) (by kernel_rfl) (by kernel_rfl) (fun _ _ _ h => h) (Or.inl ⟨by rfl, ?_⟩) trivial ?_
    · rintro w' -
      go_simp
    simp only [List.setIfInBounds_toArray, List.set_cons_zero, List.set_cons_succ]
    refine nany_take 10 33 (.slice a8 nd (c - 8)) rfl rfl (by kernel_rfl) (by kernel_rfl) (by kernel_rfl) (fun _ _ _ h => h) (Or.inl ⟨by rfl, ?_⟩) trivial ?_
    · rintro w' -
      go_simp
    simp only [List.setIfInBounds_toArray, List.set_cons_zero, List.set_cons_succ]
    obtain ⟨v1, hv1, bv1⟩ := newW v0 (.cells #[.slice a6 6 c, .slice a8 nd (c - 8)] 23)
    have HBv1 := hid (HBv0.out.trans (bv1.mono HBv0.out.size))
    have Hv1 := hid ((bv1.block g (Array.getElem?_eq_some_iff.1 Hv0.out).1).trans Hv0.out)
    have hS1 := HSU.out v1 v0.heap.size HBv1.out (by rw [hv1]; exact cell_of (alloc_new v0 _) rfl) (by rw [hv1]; exact cell_of (alloc_new v0 _) rfl)
    refine nany_one 11 (by kernel_rfl) ?_
    refine nop_value' 34 (v := .slice (some ⟨v0.heap.size, 0, none⟩) 2 2) (w' := v1) rfl (by rfl) rfl (by rw [hv1]; go_simp) ?_
    refine ⟨trivial, ?_⟩
    simp only [List.setIfInBounds_toArray, List.set_cons_zero, List.set_cons_succ]
    refine nany_one 12 (by kernel_rfl) ?_
    refine nop_callE 35 (f := 15) (args := #[.int .u32 s, .int .u32 d, .slice (some ⟨v0.heap.size, 0, none⟩) 2 2]) (R := fun v w' => v = .int .u64 tol ∧ Below v1.heap.size v1 w') rfl (by rfl) rfl (by go_simp) (hS1.mono (fun e w' h => ⟨_, h.1, rfl, h.2⟩)) ?_
    rintro v v2 ⟨rfl, hbv2⟩
    refine ⟨trivial, ?_⟩
    simp only [List.setIfInBounds_toArray, List.set_cons_zero, List.set_cons_succ]
    have HBv2 := hid (HBv1.out.trans (hbv2.mono HBv1.out.size))
    have Hv2 := hid ((hbv2.block g (Array.getElem?_eq_some_iff.1 Hv1.out).1).trans Hv1.out)
    refine nany_take 13 36 (.bool false) rfl rfl (by kernel_rfl) (by kernel_rfl) (by kernel_rfl) (fun _ _ _ h => h) (Or.inl ⟨by rfl, ?_⟩) trivial ?_
    · rintro w' -
      go_simp
    simp only [List.setIfInBounds_toArray, List.set_cons_zero, List.set_cons_succ]
    refine nany_take 14 37 (.bool false) rfl rfl (by kernel_rfl) (by kernel_rfl) (by kernel_rfl) (fun _ _ _ h => h) (Or.inl ⟨by rfl, ?_⟩) trivial ?_
    · rintro w' -
      go_simp
    simp only [List.setIfInBounds_toArray, List.set_cons_zero, List.set_cons_succ]
    clear hbv2 hS1 hv1 bv1
    refine wpAnyH_done (by kernel_rfl) ?_ _
    clear hS
    go_upto_region 7 with fail
    try simp only [Act.put]
    refine wp_region_held_drew (S := fun _ => True) (by kernel_rfl) trivial (fun hS => ?_)
    obtain ⟨x0, hdx0⟩ : ∃ W, W = v2.drew := ⟨_, rfl⟩
    rw [← hdx0]
    have HBx0 := hid (show Below w.heap.size w x0 by rw [hdx0]; exact HBv2.out.drew)
    have Hx0 := hid (show x0.heap[g]? = some (.cells (dgC 0 0 (.slice none 0 0)) 25 (0, 0)) by rw [hdx0]; exact Hv2.out)
    clear hdx0
    refine nany_take 0 39 (.slice a n c) rfl rfl (by kernel_rfl) (by kernel_rfl) (by kernel_rfl) (fun _ _ _ h => h) (Or.inl ⟨by rfl, ?_⟩) trivial ?_
    · rintro w' -
      go_simp
    simp only [List.setIfInBounds_toArray, List.set_cons_zero, List.set_cons_succ]
    refine nany_take 2 41 (.slice a n c) rfl rfl (by kernel_rfl) (by kernel_rfl) (by kernel_rfl) (fun _ _ _ h => h) (Or.inl ⟨by rfl, ?_⟩) trivial ?_
    · rintro w' -
      go_simp
    simp only [List.setIfInBounds_toArray, List.set_cons_zero, List.set_cons_succ]
    refine nany_take 4 43 (.slice a n c) rfl rfl (by kernel_rfl) (by kernel_rfl) (by kernel_rfl) (fun _ _ _ h => h) (Or.inl ⟨by rfl, ?_⟩) trivial ?_
    · rintro w' -
      go_simp
    simp only [List.setIfInBounds_toArray, List.set_cons_zero, List.set_cons_succ]
    refine nany_take 5 44 (.int .i64 L) rfl rfl (by kernel_rfl) (by kernel_rfl) (by kernel_rfl) (fun _ _ _ h => h) (Or.inl ⟨by rfl, ?_⟩) trivial ?_
    · rintro w' -
      go_simp
    simp only [List.setIfInBounds_toArray, List.set_cons_zero, List.set_cons_succ]
    refine nany_take 6 45 (.slice a8 nd (c - 8)) rfl rfl (by kernel_rfl) (by kernel_rfl) (by kernel_rfl) (fun _ _ _ h => h) (Or.inl ⟨by rfl, ?_⟩) trivial ?_
    · rintro w' -
      go_simp
    simp only [List.setIfInBounds_toArray, List.set_cons_zero, List.set_cons_succ]
    refine nany_one 1 (by kernel_rfl) ?_
    refine nop_callE 40 (f := 14) (args := #[.slice a n c, .int .i64 0]) (R := fun v w' => v = .int .i64 xf ∧ Below x0.heap.size x0 w') rfl (by rfl) rfl (by go_simp) ((HNU.out x0 HBx0.out 0 (by omega)).mono (fun e w' h => ⟨_, h.1.trans (by rw [Hxf.out]), rfl, h.2⟩)) ?_
    rintro v x1 ⟨rfl, hbx1⟩
    refine ⟨trivial, ?_⟩
    simp only [List.setIfInBounds_toArray, List.set_cons_zero, List.set_cons_succ]
    have HBx1 := hid (HBx0.out.trans (hbx1.mono HBx0.out.size))
    have Hx1 := hid ((hbx1.block g (Array.getElem?_eq_some_iff.1 Hx0.out).1).trans Hx0.out)
    clear hbx1
    refine nany_one 3 (by kernel_rfl) ?_
    refine nop_callE 42 (f := 14) (args := #[.slice a n c, .int .i64 2]) (R := fun v w' => v = .int .i64 xt ∧ Below x1.heap.size x1 w') rfl (by rfl) rfl (by go_simp) ((HNU.out x1 HBx1.out 2 (by omega)).mono (fun e w' h => ⟨_, h.1.trans (by rw [Hxt.out]), rfl, h.2⟩)) ?_
    rintro v x2 ⟨rfl, hbx2⟩
    refine ⟨trivial, ?_⟩
    simp only [List.setIfInBounds_toArray, List.set_cons_zero, List.set_cons_succ]
    have HBx2 := hid (HBx1.out.trans (hbx2.mono HBx1.out.size))
    have Hx2 := hid ((hbx2.block g (Array.getElem?_eq_some_iff.1 Hx1.out).1).trans Hx1.out)
    clear hbx2
    refine nany_one 7 (by kernel_rfl) ?_
    refine nop_callE 46 (f := 16) (args := #[.slice a8 nd (c - 8)]) (R := fun v w' => ∃ a2 c2, v = .slice a2 nd c2 ∧ By w' (New x2) a2 data ∧ nd ≤ c2 ∧ Below x2.heap.size x2 w') rfl (by rfl) rfl (by go_simp) ((HCL.out x2 HBx2.out).mono (fun e w' h => by obtain ⟨a2, c2, h1, h2⟩ := h; exact ⟨_, h1, a2, c2, rfl, h2⟩)) ?_
    rintro v x3 ⟨a2, c2, rfl, hy9, hc9, hbx3⟩
    refine ⟨trivial, ?_⟩
    simp only [List.setIfInBounds_toArray, List.set_cons_zero, List.set_cons_succ]
    have HBx3 := hid (HBx2.out.trans (hbx3.mono HBx2.out.size))
    have Hx3 := hid ((hbx3.block g (Array.getElem?_eq_some_iff.1 Hx2.out).1).trans Hx2.out)
    have HY := hid hy9
    have HLX := hid (Nat.lt_of_lt_of_le (Array.getElem?_eq_some_iff.1 Hx2.out).1 (Nat.le_refl _))
    have HSZ := hid HBx2.out.size
    clear hbx3 hy9 hc9
    refine nany_take 8 47 (.agg (dgC xf xt (.slice a2 nd c2))) rfl rfl (by kernel_rfl) (by kernel_rfl) (by kernel_rfl) (fun _ _ _ h => h) (Or.inl ⟨by rfl, ?_⟩) trivial ?_
    · rintro w' -
      go_simp
    simp only [List.setIfInBounds_toArray, List.set_cons_zero, List.set_cons_succ]
    obtain ⟨W11, hW11⟩ : ∃ W, W = x3.setRow g (dgC xf xt (.slice a2 nd c2)) := ⟨_, rfl⟩
    refine nany_one 9 (by kernel_rfl) ?_
    refine nop_skip (w' := W11) rfl (by rfl) rfl (by rw [hW11]; exact ex_store 25 _ _ rfl g (dgC xf xt (.slice a2 nd c2)) rfl rfl 25 _ Hx3.out sizeDg rfl (dgC_one _ _ _ _ _)) ?_
    refine ⟨trivial, ?_⟩
    refine nany_take 10 7 (.int .i64 0) rfl rfl (by kernel_rfl) (by kernel_rfl) (by kernel_rfl) (fun _ _ _ h => h) (Or.inl ⟨by rfl, ?_⟩) trivial ?_
    · rintro w' -
      go_simp
    simp only [List.setIfInBounds_toArray, List.set_cons_zero, List.set_cons_succ]
    refine wpAnyH_done (by kernel_rfl) ?_ _
    have H11 := hid (show W11.heap[g]? = some (.cells (dgC xf xt (.slice a2 nd c2)) 25 (0, 0)) by rw [hW11]; exact setRow_heap _ _ _ _ _ _ Hx3.out)
    have HB11 := hid (show Below w.heap.size w W11 by rw [hW11]; exact (setRow_mods _ _ _).to_below HBx3.out HBx3.out.size (fun x hx => by rw [hx, HG.out]; exact Nat.le_refl _))
    have HY11 := hid (show By W11 (New x2) a2 data by rw [hW11]; exact HY.out.keep (fun x hx hl => setRow_other _ _ _ _ (fun e => by have := HLX.out; rw [e] at hx; exact absurd this (Nat.not_lt.2 hx))))
    clear hW11 hS
    go_wp2
    refine bodyPost_ret (results_ct rfl _ _ g (dgC xf xt (.slice a2 nd c2)) _ _ rfl H11.out Try.underlying25 sizeDg) rfl ⟨a2, c2, rfl, HY11.out.weak (fun x hx _ => Nat.le_trans HSZ.out hx), ?_⟩
    have h2 := HB11.out
    first | exact h2 | (rw [HG.out] at h2; exact h2)
set_option maxRecDepth 100000 in
set_option maxHeartbeats 16000000 in
theorem Parse_bad2 (w : World) (s d : Int) (a : Option Addr) (n c : Nat) (l : List Int) (hs : IsU s) (hd : IsU d) (hn : l.length = n) (hl : n ≤ 65535 + 4465) (hc : n ≤ c) (hb : Bytes w a l) (he : exE l = 0) (hp : ¬ toN l = 0 ∧ ¬ toN l = suN s d l) :
    Calls Try.prog 7 #[.int .u32 s, .int .u32 d, .slice a n c] w fun e w' => e = .returned (.tuple #[.agg (dgC 0 0 (.slice none 0 0)), .int .i64 13]) ∧ Below w.heap.size w w' := by
  obtain ⟨q0, q1, q2⟩ := exE_ok he
  obtain ⟨W1, hW1, h1, b1⟩ := boxP w (dgC 0 0 (.slice none 0 0)) 25
  obtain ⟨g, hg⟩ : ∃ g, w.heap.size = g := ⟨_, rfl⟩
  rw [hg] at h1
  have HEX := extent_any W1 a n c l hn (by omega) hc (hb.later b1)
  rw [he] at HEX
  have HNU : Hid (∀ W, Below w.heap.size w W → ∀ at_ : Nat, at_ + 2 ≤ 8 → Calls Try.prog 14 #[.slice a n c, .int .i64 at_] W fun e w' => e = .returned (.int .i64 (beOf ((l.drop at_).take 2))) ∧ Below W.heap.size W w') := hid (fun W hW at_ h8 => number_in W a n c l at_ hn hc (by omega) (by omega) (hb.later hW) at_ rfl)
  obtain ⟨xf, hxf⟩ : ∃ x, x = beOf ((l.drop 0).take 2) := ⟨_, rfl⟩
  obtain ⟨xt, hxt⟩ : ∃ x, x = beOf ((l.drop 2).take 2) := ⟨_, rfl⟩
  obtain ⟨tol, htol⟩ : ∃ x, x = toN l := ⟨_, rfl⟩
  have bt := be_cut_bd l 6 2 hb.isB (by omega)
  have bL := be_cut_bd l 4 2 hb.isB (by omega)
  have htol' : beOf ((l.drop 6).take 2) = tol := by rw [htol]; rfl
  have hL' : beOf ((l.drop 4).take 2) = leN l := rfl
  rw [htol'] at bt
  rw [hL'] at bL
  obtain ⟨data, hdata⟩ : ∃ x, x = daN l := ⟨_, rfl⟩
  obtain ⟨U, hU⟩ : ∃ x, x = suN s d l := ⟨_, rfl⟩
  obtain ⟨L, hL⟩ : ∃ x, x = leN l := ⟨_, rfl⟩
  obtain ⟨Ln, hLn⟩ : ∃ k : Nat, k = L.toNat := ⟨_, rfl⟩
  obtain ⟨nd, hnd⟩ : ∃ k : Nat, k = Ln - 8 := ⟨_, rfl⟩
  rw [← hL] at q1 q2 bL HEX
  have hdl : data.length = nd := by rw [hdata, hnd, hLn, hL]; unfold daN; rw [← hL]; simp; omega
  obtain ⟨a6, hcut6, hcb6⟩ := cut_h a n c 6 (by omega) hc
  obtain ⟨a8, hcut8, hcb8⟩ := cut_lh a n c 8 Ln (by omega) (by omega) hc
  have hcut6' : ∀ W : World, (Instr.slice 23 (.slice a n c) none (some (.int .i64 6)) none).run Try.prog W = .ok (.slice a6 6 c) W := hcut6
  have hcut8' : ∀ W : World, (Instr.slice 23 (.slice a n c) (some (.int .i64 8)) (some (.int .i64 L)) none).run Try.prog W = .ok (.slice a8 nd (c - 8)) W := fun W => by
    have := hcut8 W
    rw [show ((Ln : Nat) : Int) = L by omega, ← hnd] at this
    exact this
  have hd8 : ∀ W, Below w.heap.size w W → Bytes W a8 data := fun W hW => by
    have := hcb8 W l hn (hb.later hW)
    rw [hdata]; unfold daN; rw [← hL, ← hLn]; exact this
  have HCL : Hid (∀ W, Below w.heap.size w W → Calls Try.prog 16 #[.slice a8 nd (c - 8)] W fun e w' => ∃ a2 c2, e = .returned (.slice a2 nd c2) ∧ By w' (New W) a2 data ∧ nd ≤ c2 ∧ Below W.heap.size W w') := hid (fun W hW => Clone_all W a8 nd (c - 8) data hdl (by omega) (hd8 W hW))
  have HSU : Hid (∀ (W : World) (X : Nat), Below w.heap.size w W → W.cell? ⟨X, 0, none⟩ = some (.slice a6 6 c) → W.cell? ⟨X, 1, none⟩ = some (.slice a8 nd (c - 8)) → Calls Try.prog 15 #[.int .u32 s, .int .u32 d, .slice (some ⟨X, 0, none⟩) 2 2] W fun e w' => e = .returned (.int .u64 U) ∧ Below W.heap.size W w') := hid (fun W X hW x1 x2 => by
    have := sum_any W s d X a6 a8 6 nd c (c - 8) (l.take 6) data hs hd (by simp; omega) hdl (by omega) x1 x2 (hcb6 W l hn (hb.later hW)) (hd8 W hW)
    rw [hU]; unfold suN; rw [← hdata]; exact this)
  have Hxf := hid hxf.symm
  have Hxt := hid hxt.symm
  have Htol := hid htol'
  have HEX := hid HEX
  have H1 := hid h1
  have HB1 := hid b1
  have HG := hid hg
  have HW := hW1.symm
  have hw1 : IntKind.u64.wrap tol = tol := IntWalk.u64_in _ (by omega)
  rw [← htol, ← hU] at hp
  clear hxf hxt htol hU hL hdata hdl
  clear h1 b1 hW1 hn hb he q0 q1 q2 bt bL htol' hL' hLn hnd hcut6 hcut8 hcb6 hcb8 hd8 hs hd
  have k0b : (tol != 0) = true := bne_iff_ne.2 hp.1
  have k1b : (tol != U) = true := bne_iff_ne.2 hp.2
  clear hp
  go_enter Try.func7, Try.ntmps7
  go_upto_region 5 with (first
    | (go_at_call 13; refine HEX.out.mono ?_; rintro e w2 ⟨x, ⟨rfl, hx⟩, hb2⟩; obtain rfl : L = x := (hx rfl).symm; have H2 := hid ((hb2.block g (Array.getElem?_eq_some_iff.1 H1.out).1).trans H1.out); have HB2 := hid (HB1.out.trans (hb2.mono HB1.out.size)); clear hb2 HEX hx)
    | (go_at_call 14; refine (HNU.out w2 HB2.out 6 (by omega)).mono ?_; rintro e w3 ⟨rfl, hb3⟩; rw [Htol.out]; have Hw3 := hid ((hb3.block g (Array.getElem?_eq_some_iff.1 H2.out).1).trans H2.out); have HBw3 := hid (HB2.out.trans (hb3.mono HB2.out.size)); clear hb3))
  try simp only [Act.put]
  refine wp_region_held_drew (S := fun _ => True) (by kernel_rfl) trivial (fun hS => ?_)
  obtain ⟨v0, hdv0⟩ : ∃ W, W = w3.drew := ⟨_, rfl⟩
  rw [← hdv0]
  have HBv0 := hid (show Below w.heap.size w v0 by rw [hdv0]; exact HBw3.out.drew)
  have Hv0 := hid (show v0.heap[g]? = some (.cells (dgC 0 0 (.slice none 0 0)) 25 (0, 0)) by rw [hdv0]; exact Hw3.out)
  clear hdv0
  refine nany_take 0 23 (.int .u64 tol) rfl rfl (by kernel_rfl) (by kernel_rfl) (by kernel_rfl) (fun _ _ _ h => h) (Or.inl ⟨by rfl, ?_⟩) trivial ?_
  · rintro w' -
    go_simp
  simp only [List.setIfInBounds_toArray, List.set_cons_zero, List.set_cons_succ]
  refine nany_take 1 24 (.bool true) rfl rfl (by kernel_rfl) (by kernel_rfl) (by kernel_rfl) (fun _ _ _ h => h) (Or.inl ⟨by rfl, ?_⟩) trivial ?_
  · rintro w' -
    go_simp
  simp only [List.setIfInBounds_toArray, List.set_cons_zero, List.set_cons_succ]
  refine nany_take 2 25 (.bool true) rfl rfl (by kernel_rfl) (by kernel_rfl) (by kernel_rfl) (fun _ _ _ h => h) (Or.inl ⟨by rfl, ?_⟩) trivial ?_
  · rintro w' -
    go_simp
  simp only [List.setIfInBounds_toArray, List.set_cons_zero, List.set_cons_succ]
  refine nany_take 3 26 (.int .u64 tol) rfl rfl (by kernel_rfl) (by kernel_rfl) (by kernel_rfl) (fun _ _ _ h => h) (Or.inl ⟨by rfl, ?_⟩) trivial ?_
  · rintro w' -
    go_simp
  simp only [List.setIfInBounds_toArray, List.set_cons_zero, List.set_cons_succ]
  refine nany_take 4 27 (.int .u32 s) rfl rfl (by kernel_rfl) (by kernel_rfl) (by kernel_rfl) (fun _ _ _ h => h) (Or.inl ⟨by rfl, ?_⟩) trivial ?_
  · rintro w' -
    go_simp
  simp only [List.setIfInBounds_toArray, List.set_cons_zero, List.set_cons_succ]
  refine nany_take 5 28 (.int .u32 d) rfl rfl (by kernel_rfl) (by kernel_rfl) (by kernel_rfl) (fun _ _ _ h => h) (Or.inl ⟨by rfl, ?_⟩) trivial ?_
  · rintro w' -
    go_simp
  simp only [List.setIfInBounds_toArray, List.set_cons_zero, List.set_cons_succ]
  refine nany_take 6 29 (.slice a n c) rfl rfl (by kernel_rfl) (by kernel_rfl) (by kernel_rfl) (fun _ _ _ h => h) (Or.inl ⟨by rfl, ?_⟩) trivial ?_
  · rintro w' -
    go_simp
  simp only [List.setIfInBounds_toArray, List.set_cons_zero, List.set_cons_succ]
  refine nany_take 7 30 (.slice a6 6 c) rfl rfl (by kernel_rfl) (by kernel_rfl) (by kernel_rfl) (fun _ _ _ h => h) (Or.inl ⟨by rfl, ?_⟩) trivial ?_
  · rintro w' -
    go_simp
  simp only [List.setIfInBounds_toArray, List.set_cons_zero, List.set_cons_succ]
  refine nany_take 8 31 (.slice a n c) rfl rfl (by kernel_rfl) (by kernel_rfl) (by kernel_rfl) (fun _ _ _ h => h) (Or.inl ⟨by rfl, ?_⟩) trivial ?_
  · rintro w' -
    go_simp
  simp only [List.setIfInBounds_toArray, List.set_cons_zero, List.set_cons_succ]
  refine nany_take 9 32 (.int .i64 L) rfl rfl (by kernel_rfl) (by kernel_rfl) (by kernel_rfl) (fun _ _ _ h => h) (Or.inl ⟨by rfl, ?_⟩) trivial ?_
  · rintro w' -
    go_simp
  simp only [List.setIfInBounds_toArray, List.set_cons_zero, List.set_cons_succ]
  refine nany_take 10 33 (.slice a8 nd (c - 8)) rfl rfl (by kernel_rfl) (by kernel_rfl) (by kernel_rfl) (fun _ _ _ h => h) (Or.inl ⟨by rfl, ?_⟩) trivial ?_
  · rintro w' -
    go_simp
  simp only [List.setIfInBounds_toArray, List.set_cons_zero, List.set_cons_succ]
  obtain ⟨v1, hv1, bv1⟩ := newW v0 (.cells #[.slice a6 6 c, .slice a8 nd (c - 8)] 23)
  have HBv1 := hid (HBv0.out.trans (bv1.mono HBv0.out.size))
  have Hv1 := hid ((bv1.block g (Array.getElem?_eq_some_iff.1 Hv0.out).1).trans Hv0.out)
  have hS1 := HSU.out v1 v0.heap.size HBv1.out (by rw [hv1]; exact cell_of (alloc_new v0 _) rfl) (by rw [hv1]; exact cell_of (alloc_new v0 _) rfl)
  refine nany_one 11 (by kernel_rfl) ?_
  refine nop_value' 34 (v := .slice (some ⟨v0.heap.size, 0, none⟩) 2 2) (w' := v1) rfl (by rfl) rfl (by rw [hv1]; go_simp) ?_
  refine ⟨trivial, ?_⟩
  simp only [List.setIfInBounds_toArray, List.set_cons_zero, List.set_cons_succ]
  refine nany_one 12 (by kernel_rfl) ?_
  refine nop_callE 35 (f := 15) (args := #[.int .u32 s, .int .u32 d, .slice (some ⟨v0.heap.size, 0, none⟩) 2 2]) (R := fun v w' => v = .int .u64 U ∧ Below v1.heap.size v1 w') rfl (by rfl) rfl (by go_simp) (hS1.mono (fun e w' h => ⟨_, h.1, rfl, h.2⟩)) ?_
  rintro v v2 ⟨rfl, hbv2⟩
  refine ⟨trivial, ?_⟩
  simp only [List.setIfInBounds_toArray, List.set_cons_zero, List.set_cons_succ]
  have HBv2 := hid (HBv1.out.trans (hbv2.mono HBv1.out.size))
  have Hv2 := hid ((hbv2.block g (Array.getElem?_eq_some_iff.1 Hv1.out).1).trans Hv1.out)
  refine nany_take 13 36 (.bool true) rfl rfl (by kernel_rfl) (by kernel_rfl) (by kernel_rfl) (fun _ _ _ h => h) (Or.inl ⟨by rfl, ?_⟩) trivial ?_
  · rintro w' -
    go_simp
  simp only [List.setIfInBounds_toArray, List.set_cons_zero, List.set_cons_succ]
  refine nany_take 14 37 (.bool true) rfl rfl (by kernel_rfl) (by kernel_rfl) (by kernel_rfl) (fun _ _ _ h => h) (Or.inl ⟨by rfl, ?_⟩) trivial ?_
  · rintro w' -
    go_simp
  simp only [List.setIfInBounds_toArray, List.set_cons_zero, List.set_cons_succ]
  clear hbv2 hS1 hv1 bv1
  refine wpAnyH_done (by kernel_rfl) ?_ _
  clear hS
  go_wp2_with (refine wpList_store_row rfl 25 _ _ rfl g (dgC 0 0 (.slice none 0 0)) rfl rfl 25 _ Hv2.out sizeDg rfl (dgC_one _ _ _ _ _) ?_)
  refine bodyPost_ret (results_ct rfl _ _ g (dgC 0 0 (.slice none 0 0)) _ _ rfl (setRow_heap _ g _ _ _ _ Hv2.out) Try.underlying25 sizeDg) rfl ⟨rfl, ?_⟩
  have hbw := (setRow_mods v2 g (dgC 0 0 (.slice none 0 0))).to_below HBv2.out HBv2.out.size (fun x hx => by rw [hx, HG.out]; exact Nat.le_refl _)
  first | exact hbw | (rw [HG.out] at hbw; exact hbw)
theorem Parse_any (w : World) (s d : Int) (a : Option Addr) (n c : Nat) (l : List Int) (hs : IsU s) (hd : IsU d) (hn : l.length = n) (hl : n ≤ 70000) (hc : n ≤ c) (hb : Bytes w a l) :
    Calls Try.prog 7 #[.int .u32 s, .int .u32 d, .slice a n c] w fun e w' => ∃ a2 c2, e = .returned (.tuple #[.agg (dgC (prF s d l) (prT s d l) (.slice a2 (prD s d l).length c2)), .int .i64 (prE s d l)]) ∧ By w' (New w) a2 (prD s d l) ∧ Below w.heap.size w w' := by
  by_cases he : exE l = 0
  · by_cases hp : ¬ toN l = 0 ∧ ¬ toN l = suN s d l
    · have e0 : prE s d l = 13 := by unfold prE; rw [if_neg (not_not_intro he), if_pos hp]
      unfold prF prT prD
      rw [e0, if_neg (by omega), if_neg (by omega), if_neg (by omega)]
      refine (Parse_bad2 w s d a n c l hs hd hn hl hc hb he hp).mono ?_
      rintro e w' ⟨rfl, h3⟩
      exact ⟨none, 0, rfl, By.nil _ _ _, h3⟩
    · have e0 : prE s d l = 0 := by unfold prE; rw [if_neg (not_not_intro he), if_neg hp]
      unfold prF prT prD
      rw [e0, if_pos rfl, if_pos rfl, if_pos rfl]
      exact Parse_ok w s d a n c l hs hd hn hl hc hb he (by by_cases h : toN l = 0; exact .inl h; exact .inr (Classical.byContradiction fun h2 => hp ⟨h, h2⟩))
  · have e0 : prE s d l = exE l := by unfold prE; rw [if_pos he]
    unfold prF prT prD
    rw [e0, if_neg he, if_neg he, if_neg he]
    refine (Parse_bad1 w s d a n c l hn (by omega) hc hb he).mono ?_
    rintro e w' ⟨rfl, h3⟩
    exact ⟨none, 0, rfl, By.nil _ _ _, h3⟩
end Go.Proofs.Ytbhdbgippbopfaa
