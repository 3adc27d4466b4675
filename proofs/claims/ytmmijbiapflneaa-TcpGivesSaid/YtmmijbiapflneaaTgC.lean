/- Take, by cases. -/
import Derived.Test.YtmmijbiapflneaaTgB
namespace Go.Proofs.Ytmmijbiapflneaa
open Go.RowKit Go.Maps
set_option linter.unusedVariables false
set_option maxRecDepth 100000 in
set_option maxHeartbeats 16000000 in
theorem Take_ack {w : World} {p : Nat} {S : Nat → Prop} {c : Cn} {vc vm vw : Value} (h : CnX w p S c vc vm vw) (s : Sg) (hf4 : hasB s.fl 4 = false) (hf2 : hasB s.fl 2 = false) (hf16 : hasB s.fl 16 = true) (hle : lessB c.N s.ack = false) (hst : (c.st = 1 ∧ s.ack = c.N) ∨ c.st = 2) (hcl : c.came.length ≤ 16384) (hrb : 0 ≤ roomC c ∧ roomC c ≤ 16384 - c.came.length) (hlv : c.lv = true) (hR : IsU c.R) (hE : ∀ x y, c.E x = some y → IsB y) (a : Option Addr) (n cp : Nat) (hseq : IsU s.seq) (hn : s.dat.length = n) (hl : n ≤ 300000) (hc : n ≤ cp) (hb : ∀ W, Kp S w S W → Bytes W a s.dat) (hec : c.ec ≤ 300000) (hwl : c.waits.length ≤ 900000) :
    Calls Try.prog 12 #[.pointer (some ⟨p, 0, none⟩), .agg (sgC s.fr s.to_ s.seq s.ack s.fl s.win s.mss (.slice a n cp))] w fun e w' => e = .returned undef ∧ ∃ S', CnAt w' p S' (ansOpS { c with st := 2 } s) ∧ Kp S w S' w' := by
  obtain ⟨W1, hW1, h1, b1⟩ := boxS w (sgC s.fr s.to_ s.seq s.ack s.fl s.win s.mss (.slice a n cp)) 30
  obtain ⟨g, hg⟩ : ∃ g, w.heap.size = g := ⟨_, rfl⟩
  rw [hg] at h1
  have HX_ := hid (h.later b1)
  have HB_ := hid h1
  have HK_ := hid b1
  have p16 := cell_of HX_.out.box (i := 16) (v := .int .i64 c.st) rfl
  have h5 : (c.st == 5) = false := by rcases hst with ⟨e, _⟩ | e <;> rw [e] <;> rfl
  have HTA : Hid (∀ W, Below w.heap.size w W → CnX W p S c vc vm vw → Calls Try.prog 26 #[.pointer (some ⟨p, 0, none⟩), .agg (sgC s.fr s.to_ s.seq s.ack s.fl s.win s.mss (.slice a n cp))] W fun e w' => e = .returned undef ∧ ∃ S', CnAt w' p S' (ansOpS { c with st := 2 } s) ∧ Kp S W S' w') := hid (fun W hW hx => takeAnswer_open hx s hst hcl hrb hlv hR hE a n cp hseq hn hl hc (fun W' hk => hb W' ((Kp.below (S := S) hW).trans hk)) hec hwl)
  obtain ⟨st, hste⟩ : ∃ x, c.st = x := ⟨_, rfl⟩
  rw [hste] at p16 h5
  obtain ⟨RS, hRS⟩ : ∃ x, ansOpS { c with st := 2 } s = x := ⟨_, rfl⟩
  rw [hRS] at HTA ⊢
  obtain ⟨f, t, q, ak, fl, wi, mss, dat⟩ := s
  simp only at *
  have HA4 : Hid (∀ W, Calls Try.prog 23 #[.agg (sgC f t q ak fl wi mss (.slice a n cp)), .int .i64 4] W fun e w' => e = .returned (.bool false) ∧ Below W.heap.size W w') := hid (fun W => by have := has_any W f t q ak fl wi mss 4 (.slice a n cp); rwa [hf4] at this)
  have HA2 : Hid (∀ W, Calls Try.prog 23 #[.agg (sgC f t q ak fl wi mss (.slice a n cp)), .int .i64 2] W fun e w' => e = .returned (.bool false) ∧ Below W.heap.size W w') := hid (fun W => by have := has_any W f t q ak fl wi mss 2 (.slice a n cp); rwa [hf2] at this)
  have HA16 : Hid (∀ W, Calls Try.prog 23 #[.agg (sgC f t q ak fl wi mss (.slice a n cp)), .int .i64 16] W fun e w' => e = .returned (.bool true) ∧ Below W.heap.size W w') := hid (fun W => by have := has_any W f t q ak fl wi mss 16 (.slice a n cp); rwa [hf16] at this)
  have HLE : Hid (∀ W, Calls Try.prog 20 #[.int .u32 c.N, .int .u32 ak] W fun e w' => e = .returned (.bool false) ∧ w' = W) := hid (fun W => by have := Less_any W c.N ak; rwa [hle] at this)
  have HW := hW1.symm
  clear h1 b1 hW1 h hf4 hf2 hf16 hle hst hcl hrb hlv hR hE hseq hn hl hc hb hec hwl hste hRS
  go_enter Try.func12, Try.ntmps12
  go_upto_region 9 with (first
    | (refine wpList_load_row rfl 30 _ rfl g rfl 30 _ (0, 0) _ HB_.out Try.underlying30 rfl sizeSg ?_)
    | (go_at_call 23; refine (HA4.out _).mono ?_; rintro e w2 ⟨rfl, hbk⟩; have hlt := (Array.getElem?_eq_some_iff.1 HB_.out).1; have HBn := hid ((hbk.block g hlt).trans HB_.out); have HXn := hid (HX_.out.later hbk); have HKn := hid (HK_.out.trans (hbk.mono HK_.out.size)); clear HB_ HX_ HK_ hbk hlt HA4 p16; have HB_ := HBn; have HX_ := HXn; have HK_ := HKn; clear HBn HXn HKn)
    | (go_at_call 23; refine (HA2.out _).mono ?_; rintro e w3 ⟨rfl, hbk⟩; have hlt := (Array.getElem?_eq_some_iff.1 HB_.out).1; have HBn := hid ((hbk.block g hlt).trans HB_.out); have HXn := hid (HX_.out.later hbk); have HKn := hid (HK_.out.trans (hbk.mono HK_.out.size)); clear HB_ HX_ HK_ hbk hlt HA2; have HB_ := HBn; have HX_ := HXn; have HK_ := HKn; clear HBn HXn HKn)
    | (go_at_call 23; refine (HA16.out _).mono ?_; rintro e w4 ⟨rfl, hbk⟩; have hlt := (Array.getElem?_eq_some_iff.1 HB_.out).1; have HBn := hid ((hbk.block g hlt).trans HB_.out); have HXn := hid (HX_.out.later hbk); have HKn := hid (HK_.out.trans (hbk.mono HK_.out.size)); clear HB_ HX_ HK_ hbk hlt HA16; have HB_ := HBn; have HX_ := HXn; have HK_ := HKn; clear HBn HXn HKn))
  have p6 := cell_of HX_.out.box (i := 6) (v := .int .u32 c.N) rfl
  have p3 := cell_of HB_.out (i := 3) (v := .int .u32 ak) rfl
  go_region_held3 (fun w' => w'.cell? ⟨p, 6, none⟩ = some (.int .u32 c.N) ∧ w'.cell? ⟨g, 3, none⟩ = some (.int .u32 ak)) (exact ⟨p6, p3⟩)
    ((go_at_call 20; refine (HLE.out _).mono ?_; rintro e w5 ⟨rfl, rfl⟩))
  have HX5 := hid (HX_.out.drew)
  have HB5 := hid (show w4.drew.heap[g]? = some (.cells (sgC f t q ak fl wi mss (.slice a n cp)) 30 (0, 0)) from HB_.out)
  have HK5 := hid (HK_.out.trans ((below_drewN (Below.refl _ w4) 1).mono HK_.out.size))
  clear p6 p3 HX_ HB_ HK_ HLE
  go_wp2_with (first
    | (refine wpList_load_row rfl 30 _ rfl g rfl 30 _ (0, 0) _ HB5.out Try.underlying30 rfl sizeSg ?_)
    | (go_at_call 26; refine (HTA.out _ HK5.out HX5.out).mono ?_; rintro e w6 ⟨rfl, S6, hx6, hk6⟩; have HX6 := hid hx6; have HK6 := hid ((Kp.below (S := S) HK5.out).trans hk6); clear hx6 hk6 HTA HB5 HX5 HK5))
  first | go_end0 | refine bodyPost_ret (results_none rfl _ _ _) rfl ?_
  exact ⟨rfl, S6, HX6.out, HK6.out⟩
set_option maxRecDepth 100000 in
set_option maxHeartbeats 16000000 in
/-- A segment without Rst, Syn and Ack changes nothing. -/
theorem Take_bare {w : World} {p : Nat} {S : Nat → Prop} {c : Cn} {vc vm vw : Value} (h : CnX w p S c vc vm vw) (s : Sg) (hf4 : hasB s.fl 4 = false) (hf2 : hasB s.fl 2 = false) (hf16 : hasB s.fl 16 = false) (hst : c.st ≠ 5) (a : Option Addr) (n cp : Nat) :
    Calls Try.prog 12 #[.pointer (some ⟨p, 0, none⟩), .agg (sgC s.fr s.to_ s.seq s.ack s.fl s.win s.mss (.slice a n cp))] w fun e w' => e = .returned undef ∧ CnX w' p S c vc vm vw ∧ Below w.heap.size w w' := by
  obtain ⟨W1, hW1, h1, b1⟩ := boxS w (sgC s.fr s.to_ s.seq s.ack s.fl s.win s.mss (.slice a n cp)) 30
  obtain ⟨g, hg⟩ : ∃ g, w.heap.size = g := ⟨_, rfl⟩
  rw [hg] at h1
  have HX_ := hid (h.later b1)
  have HB_ := hid h1
  have HK_ := hid b1
  have p16 := cell_of HX_.out.box (i := 16) (v := .int .i64 c.st) rfl
  have h5 : (c.st == 5) = false := by simpa using hst
  obtain ⟨st, hste⟩ : ∃ x, c.st = x := ⟨_, rfl⟩
  rw [hste] at p16 h5
  obtain ⟨f, t, q, ak, fl, wi, mss, dat⟩ := s
  simp only at *
  have HA4 : Hid (∀ W, Calls Try.prog 23 #[.agg (sgC f t q ak fl wi mss (.slice a n cp)), .int .i64 4] W fun e w' => e = .returned (.bool false) ∧ Below W.heap.size W w') := hid (fun W => by have := has_any W f t q ak fl wi mss 4 (.slice a n cp); rwa [hf4] at this)
  have HA2 : Hid (∀ W, Calls Try.prog 23 #[.agg (sgC f t q ak fl wi mss (.slice a n cp)), .int .i64 2] W fun e w' => e = .returned (.bool false) ∧ Below W.heap.size W w') := hid (fun W => by have := has_any W f t q ak fl wi mss 2 (.slice a n cp); rwa [hf2] at this)
  have HA16 : Hid (∀ W, Calls Try.prog 23 #[.agg (sgC f t q ak fl wi mss (.slice a n cp)), .int .i64 16] W fun e w' => e = .returned (.bool false) ∧ Below W.heap.size W w') := hid (fun W => by have := has_any W f t q ak fl wi mss 16 (.slice a n cp); rwa [hf16] at this)
  have HW := hW1.symm
  clear h1 b1 hW1 h hf4 hf2 hf16 hst hste
  go_enter Try.func12, Try.ntmps12
  go_wp2_with (first
    | (refine wpList_load_row rfl 30 _ rfl g rfl 30 _ (0, 0) _ HB_.out Try.underlying30 rfl sizeSg ?_)
    | (go_at_call 23; refine (HA4.out _).mono ?_; rintro e w2 ⟨rfl, hbk⟩; have hlt := (Array.getElem?_eq_some_iff.1 HB_.out).1; have HBn := hid ((hbk.block g hlt).trans HB_.out); have HXn := hid (HX_.out.later hbk); have HKn := hid (HK_.out.trans (hbk.mono HK_.out.size)); clear HB_ HX_ HK_ hbk hlt HA4 p16; have HB_ := HBn; have HX_ := HXn; have HK_ := HKn; clear HBn HXn HKn)
    | (go_at_call 23; refine (HA2.out _).mono ?_; rintro e w3 ⟨rfl, hbk⟩; have hlt := (Array.getElem?_eq_some_iff.1 HB_.out).1; have HBn := hid ((hbk.block g hlt).trans HB_.out); have HXn := hid (HX_.out.later hbk); have HKn := hid (HK_.out.trans (hbk.mono HK_.out.size)); clear HB_ HX_ HK_ hbk hlt HA2; have HB_ := HBn; have HX_ := HXn; have HK_ := HKn; clear HBn HXn HKn)
    | (go_at_call 23; refine (HA16.out _).mono ?_; rintro e w4 ⟨rfl, hbk⟩; have hlt := (Array.getElem?_eq_some_iff.1 HB_.out).1; have HBn := hid ((hbk.block g hlt).trans HB_.out); have HXn := hid (HX_.out.later hbk); have HKn := hid (HK_.out.trans (hbk.mono HK_.out.size)); clear HB_ HX_ HK_ hbk hlt HA16; have HB_ := HBn; have HX_ := HXn; have HK_ := HKn; clear HBn HXn HKn))
  first | go_end0 | refine bodyPost_ret (results_none rfl _ _ _) rfl ?_
  exact ⟨rfl, HX_.out, HK_.out⟩
set_option maxRecDepth 100000 in
set_option maxHeartbeats 16000000 in
/-- A reset. -/
theorem Take_rst {w : World} {p : Nat} {S : Nat → Prop} {c : Cn} {vc vm vw : Value} (h : CnX w p S c vc vm vw) (s : Sg) (hf4 : hasB s.fl 4 = true) (hst : c.st ≠ 5) (a : Option Addr) (n cp : Nat) :
    Calls Try.prog 12 #[.pointer (some ⟨p, 0, none⟩), .agg (sgC s.fr s.to_ s.seq s.ack s.fl s.win s.mss (.slice a n cp))] w fun e w' => e = .returned undef ∧ CnAt w' p S (if s.seq = c.R then breakS c else c) ∧ Kp S w S w' := by
  obtain ⟨W1, hW1, h1, b1⟩ := boxS w (sgC s.fr s.to_ s.seq s.ack s.fl s.win s.mss (.slice a n cp)) 30
  obtain ⟨g, hg⟩ : ∃ g, w.heap.size = g := ⟨_, rfl⟩
  rw [hg] at h1
  have HX_ := hid (h.later b1)
  have HB_ := hid h1
  have HK_ := hid b1
  have p16 := cell_of HX_.out.box (i := 16) (v := .int .i64 c.st) rfl
  have h5 : (c.st == 5) = false := by simpa using hst
  obtain ⟨st, hste⟩ : ∃ x, c.st = x := ⟨_, rfl⟩
  rw [hste] at p16 h5
  obtain ⟨f, t, q, ak, fl, wi, mss, dat⟩ := s
  simp only at *
  have HA4 : Hid (∀ W, Calls Try.prog 23 #[.agg (sgC f t q ak fl wi mss (.slice a n cp)), .int .i64 4] W fun e w' => e = .returned (.bool true) ∧ Below W.heap.size W w') := hid (fun W => by have := has_any W f t q ak fl wi mss 4 (.slice a n cp); rwa [hf4] at this)
  have HW := hW1.symm
  clear h1 b1 hW1 h hf4 hst hste
  by_cases hqR : q = c.R
  · rw [if_pos hqR]
    subst hqR
    have hqq : (c.R == c.R) = true := by simp
    go_enter Try.func12, Try.ntmps12
    go_upto_region 4 with (first
      | (refine wpList_load_row rfl 30 _ rfl g rfl 30 _ (0, 0) _ HB_.out Try.underlying30 rfl sizeSg ?_)
      | (go_at_call 23; refine (HA4.out _).mono ?_; rintro e w2 ⟨rfl, hbk⟩; have hlt := (Array.getElem?_eq_some_iff.1 HB_.out).1; have HBn := hid ((hbk.block g hlt).trans HB_.out); have HXn := hid (HX_.out.later hbk); have HKn := hid (HK_.out.trans (hbk.mono HK_.out.size)); clear HB_ HX_ HK_ hbk hlt HA4 p16; have HB_ := HBn; have HX_ := HXn; have HK_ := HKn; clear HBn HXn HKn))
    have p0 := cell_of HX_.out.box (i := 0) (v := .int .u32 c.R) rfl
    have p2 := cell_of HB_.out (i := 2) (v := .int .u32 c.R) rfl
    have HBO := hid (breakOff_any (HX_.out.drew))
    go_region
    go_wp2_with (go_at_call 24; refine HBO.out.mono ?_; rintro e w6 ⟨rfl, hx6, hm6⟩; have HX6 := hid hx6; have HK6 := hid ((Kp.below (S := S) HK_.out).trans ((Kp.below (w' := w2.drew) ((Below.refl _ _).drew)).trans (HX_.out.drew.kp hm6))); clear hx6 hm6 HBO)
    first | go_end0 | refine bodyPost_ret (results_none rfl _ _ _) rfl ?_
    exact ⟨rfl, ⟨_, _, _, HX6.out⟩, HK6.out⟩
  · rw [if_neg hqR]
    have hqq : (q == c.R) = false := by simpa using hqR
    clear hqR
    go_enter Try.func12, Try.ntmps12
    go_upto_region 4 with (first
      | (refine wpList_load_row rfl 30 _ rfl g rfl 30 _ (0, 0) _ HB_.out Try.underlying30 rfl sizeSg ?_)
      | (go_at_call 23; refine (HA4.out _).mono ?_; rintro e w2 ⟨rfl, hbk⟩; have hlt := (Array.getElem?_eq_some_iff.1 HB_.out).1; have HBn := hid ((hbk.block g hlt).trans HB_.out); have HXn := hid (HX_.out.later hbk); have HKn := hid (HK_.out.trans (hbk.mono HK_.out.size)); clear HB_ HX_ HK_ hbk hlt HA4 p16; have HB_ := HBn; have HX_ := HXn; have HK_ := HKn; clear HBn HXn HKn))
    have p0 := cell_of HX_.out.box (i := 0) (v := .int .u32 c.R) rfl
    have p2 := cell_of HB_.out (i := 2) (v := .int .u32 q) rfl
    go_region
    go_wp2
    first | go_end0 | refine bodyPost_ret (results_none rfl _ _ _) rfl ?_
    exact ⟨rfl, ⟨_, _, _, HX_.out.drew⟩, (Kp.below (S := S) HK_.out).trans (Kp.below ((Below.refl _ _).drew))⟩
end Go.Proofs.Ytmmijbiapflneaa
