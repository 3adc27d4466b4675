/- The law's theirs, same and twin; the document's twin. -/
import Derived.Test.YtgdajplloamjcaaPbD
namespace Go.Proofs.Ytgdajplloamjcaa
open Go.RowKit Go.Maps
set_option linter.unusedVariables false
theorem sizeDk : (Try.prog.info? 30).map (·.size) = some 9 := by kernel_rfl
theorem infoDP : (Try.prog.info? 30).map (fun i => (i.zero, i.size, i.bytes)) = some (some (.agg #[.int .u32 0, .int .u32 0, .int .i64 0, .int .i64 0, .int .i64 0, .bool false, .bool false, .int .i64 0, .slice none 0 0]), 9, 72) := by kernel_rfl
set_option maxRecDepth 100000 in
set_option maxHeartbeats 2000000 in
theorem theirs_any (w : World) (s d pr i o : Int) (m q : Bool) (t : Int) (a : Option Addr) (n c : Nat) :
    Calls Try.prog 13 #[.agg (pkC s d pr i o m q t (.slice a n c))] w fun e w' => e = .returned (.agg (pkC s d pr i o m q t (.slice a n c))) ∧ Below w.heap.size w w' := by
  obtain ⟨W1, hW1, h1, b1⟩ := boxP w (pkC s d pr i o m q t (.slice a n c)) 25
  obtain ⟨g1, hg1⟩ : ∃ g, w.heap.size = g := ⟨_, rfl⟩
  obtain ⟨W2, hW2, h22, b12⟩ := boxP W1 (pkC 0 0 0 0 0 false false 0 (.slice none 0 0)) 30
  obtain ⟨g2, hg2⟩ : ∃ g, W1.heap.size = g := ⟨_, rfl⟩
  have h21 := (b12.block _ (Array.getElem?_eq_some_iff.1 h1).1).trans h1
  have hB2 := b1.trans (b12.mono b1.size)
  rw [hg1] at h21
  rw [hg2] at h22
  have p0 := cell_of h21 (i := 0) (v := .int .u32 s) rfl
  have p1 := cell_of h21 (i := 1) (v := .int .u32 d) rfl
  have p2 := cell_of h21 (i := 2) (v := .int .i64 pr) rfl
  have p3 := cell_of h21 (i := 3) (v := .int .i64 i) rfl
  have p4 := cell_of h21 (i := 4) (v := .int .i64 o) rfl
  have p5 := cell_of h21 (i := 5) (v := .bool m) rfl
  have p6 := cell_of h21 (i := 6) (v := .bool q) rfl
  have p7 := cell_of h21 (i := 7) (v := .int .i64 t) rfl
  have p8 := cell_of h21 (i := 8) (v := .slice a n c) rfl
  have H22 := hid h22
  have HB2 := hid hB2
  have HS2 := hid (show w.heap.size ≤ g2 by rw [← hg2]; exact b1.size)
  have HW := hW1.symm
  have HV := hW2.symm
  clear hW1 hW2 b1 h1 b12 h22 h21 hB2
  go_enter Try.func13, Try.ntmps13
  go_wp2_with (refine wpList_store_row rfl 30 _ _ rfl g2 (pkC s d pr i o m q t (.slice a n c)) rfl rfl 30 _ H22.out sizeDk rfl (pkC_one _ _ _ _ _ _ _ _ _ rfl) ?_)
  refine bodyPost_ret (results_c rfl _ _ g2 (pkC s d pr i o m q t (.slice a n c)) _ _ rfl (setRow_heap _ g2 _ _ _ _ H22.out) Try.underlying30 sizeDk) rfl ⟨rfl, ?_⟩
  have hbw := (setRow_mods W2 g2 (pkC s d pr i o m q t (.slice a n c))).to_below HB2.out HB2.out.size (fun x hx => by rw [hx]; exact HS2.out)
  first | exact hbw | (rw [hg1] at hbw; exact hbw)
set_option maxRecDepth 100000 in
set_option maxHeartbeats 4000000 in
theorem same_eq (w : World) (s d pr i o : Int) (m q : Bool) (t : Int) (a b : Option Addr) (n c e : Nat) (l : List Int) (hl : l.length = n) (ha : Bytes w a l) (hb : Bytes w b l) :
    Calls Try.prog 14 #[.agg (pkC s d pr i o m q t (.slice a n c)), .agg (pkC s d pr i o m q t (.slice b n e))] w fun r w' => r = .returned (.bool true) ∧ Below w.heap.size w w' := by
  obtain ⟨W1, hW1, h1, b1⟩ := boxP w (pkC s d pr i o m q t (.slice a n c)) 25
  obtain ⟨g1, hg1⟩ : ∃ g, w.heap.size = g := ⟨_, rfl⟩
  obtain ⟨W2, hW2, h22, b12⟩ := boxP W1 (pkC s d pr i o m q t (.slice b n e)) 30
  obtain ⟨g2, hg2⟩ : ∃ g, W1.heap.size = g := ⟨_, rfl⟩
  have h21 := (b12.block _ (Array.getElem?_eq_some_iff.1 h1).1).trans h1
  have hB2 := b1.trans (b12.mono b1.size)
  rw [hg1] at h21
  rw [hg2] at h22
  have ca := conv0 (cap := c) (ha.later hB2) hl
  have cb := conv0 (cap := e) (hb.later hB2) hl
  have p0 := cell_of h21 (i := 0) (v := .int .u32 s) rfl
  have p1 := cell_of h21 (i := 1) (v := .int .u32 d) rfl
  have p2 := cell_of h21 (i := 2) (v := .int .i64 pr) rfl
  have p3 := cell_of h21 (i := 3) (v := .int .i64 i) rfl
  have p4 := cell_of h21 (i := 4) (v := .int .i64 o) rfl
  have p5 := cell_of h21 (i := 5) (v := .bool m) rfl
  have p6 := cell_of h21 (i := 6) (v := .bool q) rfl
  have p7 := cell_of h21 (i := 7) (v := .int .i64 t) rfl
  have p8 := cell_of h21 (i := 8) (v := .slice a n c) rfl
  have r0 := cell_of h22 (i := 0) (v := .int .u32 s) rfl
  have r1 := cell_of h22 (i := 1) (v := .int .u32 d) rfl
  have r2 := cell_of h22 (i := 2) (v := .int .i64 pr) rfl
  have r3 := cell_of h22 (i := 3) (v := .int .i64 i) rfl
  have r4 := cell_of h22 (i := 4) (v := .int .i64 o) rfl
  have r5 := cell_of h22 (i := 5) (v := .bool m) rfl
  have r6 := cell_of h22 (i := 6) (v := .bool q) rfl
  have r7 := cell_of h22 (i := 7) (v := .int .i64 t) rfl
  have r8 := cell_of h22 (i := 8) (v := .slice b n e) rfl
  generalize strOfNums l = sl at *
  have HB2 := hid hB2
  have HW := hW1.symm
  have HV := hW2.symm
  clear hW1 hW2 b1 h1 b12 h22 h21 hB2 ha hb hl
  go_enter Try.func14, Try.ntmps14
  go_wp2
  go_ret
  first | exact ⟨rfl, HB2.out⟩ | (refine ⟨?_, HB2.out⟩; simp)
set_option maxRecDepth 100000 in
set_option maxHeartbeats 2000000 in
theorem ltwin_any (w : World) (s d pr i o : Int) (m q : Bool) (t : Int) (a : Option Addr) (n c : Nat) (l : List Int) (hn : l.length = n) (hl : n ≤ 900000) (hb : Bytes w a l) :
    Calls Try.prog 10 #[.agg (pkC s d pr i o m q t (.slice a n c))] w fun e w' => ∃ a2 c2, e = .returned (.agg (pkC s d pr i o m q t (.slice a2 n c2))) ∧ By w' (New w) a2 l ∧ n ≤ c2 ∧ Below w.heap.size w w' := by
  obtain ⟨W1, hW1, h1, b1⟩ := boxP w (pkC s d pr i o m q t (.slice a n c)) 25
  obtain ⟨g, hg⟩ : ∃ g, w.heap.size = g := ⟨_, rfl⟩
  obtain ⟨W2, hW2, h2, b2⟩ := boxP W1 (pkC 0 0 0 0 0 false false 0 (.slice none 0 0)) 25
  obtain ⟨g2, hg2⟩ : ∃ g, W1.heap.size = g := ⟨_, rfl⟩
  have hlt1 := (Array.getElem?_eq_some_iff.1 h1).1
  have h21 := (b2.block _ hlt1).trans h1
  have hne : g ≠ g2 := by rw [← hg, ← hg2]; omega
  rw [hg] at h1 h21
  rw [hg2] at h2
  have b02 := b1.trans (b2.mono b1.size)
  obtain ⟨a3, c3, w3, hap, hy3, hc3, hb3⟩ := twinY W2 a n c l hn hl (hb.later b02) 22
  have hlt2 := (Array.getElem?_eq_some_iff.1 h2).1
  have hlt21 := (Array.getElem?_eq_some_iff.1 h21).1
  have h31 := (hb3.block g hlt21).trans h21
  have h32 := (hb3.block g2 hlt2).trans h2
  have b03 := b02.trans (hb3.mono b02.size)
  obtain ⟨W4, hW4, h4, b4, k4, s4⟩ := setP h31 8 (.slice a3 n c3) w.heap.size w b03 (by omega)
  have h42 := (k4 g2 (Ne.symm hne)).trans h32
  have f38 := froz_of h31 8
  have c38 := cell_of h31 (i := 8) (v := .slice a n c) rfl
  have hbA : Below W2.heap.size W2 (W2.alloc (.cells #[] 5)) := below_alloc (Below.refl _ _) (Nat.le_refl _) _
  have h2A := (hbA.block g hlt21).trans h21
  have c28 := cell_of h2A (i := 8) (v := .slice a n c) rfl
  have H4 := hid h4
  have H42 := hid h42
  have HB4 := hid b4
  have HY4 := hid (hy3.keep (w' := W4) (fun b hb hl => k4 b (fun e => by rw [e] at hb; exact absurd hlt21 (Nat.not_lt.2 hb))))
  have HC3 := hid hc3
  have HS2 := hid (show w.heap.size ≤ g2 by rw [← hg2]; exact b1.size)
  have HL2 := hid hlt2
  have HB02 := hid b02
  clear h1 h2 h21 h31 h32 b1 b2 b02 b03 h4 h42 b4 k4 s4 hy3 hc3 hb3 hbA h2A hb hn hlt1 hlt2 hlt21 hne
  have HW1 := hW1.symm
  have HW2 := hW2.symm
  have HW4 := hW4.symm
  clear hW1 hW2 hW4
  go_enter Try.func10, Try.ntmps10
  go_wp2_with (first
    | (at_builtin; refine wpList_append_run rfl _ _ 22 rfl rfl rfl hap ?_)
    | (refine wpList_load_row rfl 25 _ rfl g rfl 25 _ (0, 0) _ H4.out Try.underlying25 rfl sizePk ?_)
    | (refine wpList_store_row rfl 25 _ _ rfl g2 (pkC s d pr i o m q t (.slice a3 n c3)) rfl rfl 25 _ H42.out sizePk rfl (pkC_one _ _ _ _ _ _ _ _ _ rfl) ?_))
  refine bodyPost_ret (results_c rfl _ _ g2 (pkC s d pr i o m q t (.slice a3 n c3)) _ _ rfl (setRow_heap _ g2 _ _ _ _ H42.out) Try.underlying25 sizePk) rfl ⟨a3, c3, rfl, ?_, HC3.out, ?_⟩
  · refine (HY4.out.keep (fun x hx hl => setRow_other W4 g2 x _ (fun e => ?_))).weak (fun x hx _ => Nat.le_trans HB02.out.size hx)
    have := HL2.out
    subst e
    exact absurd this (Nat.not_lt.2 hx)
  · exact (setRow_mods W4 g2 _).to_below HB4.out HB4.out.size (fun x hx => by rw [hx]; exact HS2.out)
end Go.Proofs.Ytgdajplloamjcaa
