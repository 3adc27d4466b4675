/- The document's twin. -/
import Derived.Test.YtgdajplloamjcaaPcA
namespace Go.Proofs.Ytgdajplloamjcaa
open Go.RowKit Go.Maps
set_option linter.unusedVariables false
set_option maxRecDepth 100000 in
set_option maxHeartbeats 2000000 in
theorem rtwin_0 (w : World) (s d pr i o : Int) (m q : Bool) (t : Int) (ov : Value)  (mo : Bool) (a : Option Addr) (n c : Nat) (l : List Int)  (hov : ov.oneCell' = true) (hn : l.length = n) (hl : n ≤ 900000) (hb : Bytes w a l) :
    Calls Try.prog 33 #[.agg (pkC s d pr i o m q t ov), .int .i64 0, .slice a n c, .bool mo] w fun e w' => ∃ a2 c2, e = .returned (.agg (pkC s d pr i 0 mo (!mo) t (.slice a2 n c2))) ∧ By w' (New w) a2 l ∧ n ≤ c2 ∧ Below w.heap.size w w' := by
  obtain ⟨W1, hW1, h1, b1⟩ := boxP w (pkC s d pr i o m q t ov) 30
  obtain ⟨g, hg⟩ : ∃ g, w.heap.size = g := ⟨_, rfl⟩
  obtain ⟨W2, hW2, h2, b2⟩ := boxP W1 (pkC 0 0 0 0 0 false false 0 (.slice none 0 0)) 30
  obtain ⟨g2, hg2⟩ : ∃ g, W1.heap.size = g := ⟨_, rfl⟩
  obtain ⟨W3, hW3, h3, b3⟩ := boxP W2 (pkC 0 0 0 0 0 false false 0 (.slice none 0 0)) 30
  obtain ⟨g3, hg3⟩ : ∃ g, W2.heap.size = g := ⟨_, rfl⟩
  have h21 := (b2.block _ (Array.getElem?_eq_some_iff.1 h1).1).trans h1
  have h31 := (b3.block _ (Array.getElem?_eq_some_iff.1 h21).1).trans h21
  have h32 := (b3.block _ (Array.getElem?_eq_some_iff.1 h2).1).trans h2
  have hl2 := (Array.getElem?_eq_some_iff.1 h2).1
  have hne : g2 ≠ g3 := by rw [← hg2, ← hg3]; omega
  have hs2 : w.heap.size ≤ g2 := by rw [← hg2]; exact b1.size
  have hs3 : w.heap.size ≤ g3 := by rw [← hg3]; exact Nat.le_trans b1.size b2.size
  rw [hg] at h1 h21 h31
  rw [hg2] at h2 h32
  rw [hg3] at h3
  have b02 := b1.trans (b2.mono b1.size)
  have b03 := b02.trans (b3.mono b02.size)
  obtain ⟨W4, hW4⟩ : ∃ W, W = W3.setRow g3 (pkC s d pr i o m q t ov) := ⟨_, rfl⟩
  have h4 : W4.heap[g3]? = some (.cells (pkC s d pr i o m q t ov) 30 (0, 0)) := by rw [hW4]; exact setRow_heap _ _ _ _ _ _ h3
  have h42 : W4.heap[g2]? = some (.cells (pkC 0 0 0 0 0 false false 0 (.slice none 0 0)) 30 (0, 0)) := by rw [hW4, setRow_other _ _ _ _ hne]; exact h32
  have b4 : Below w.heap.size w W4 := by rw [hW4]; exact (setRow_mods _ _ _).to_below b03 b03.size (fun x hx => by rw [hx]; exact hs3)
  obtain ⟨W5, hW5, h5, b5, k5, s5⟩ := setP h4 4 (.int .i64 0) w.heap.size w b4 hs3
  obtain ⟨W6, hW6, h6, b6, k6, s6⟩ := setP h5 5 (.bool mo) w.heap.size w b5 hs3
  obtain ⟨W7, hW7, h7, b7, k7, s7⟩ := setP h6 6 (.bool (!mo)) w.heap.size w b6 hs3
  have h72 := (k7 g2 hne).trans ((k6 g2 hne).trans ((k5 g2 hne).trans h42))
  obtain ⟨a8, c8, w8, hap, hy8, hc8, hb8⟩ := twinY W7 a n c l hn hl (hb.later b7) 22
  have hlt72 := (Array.getElem?_eq_some_iff.1 h72).1
  have hlt7 := (Array.getElem?_eq_some_iff.1 h7).1
  have h82 := (hb8.block g2 hlt72).trans h72
  have h83 := (hb8.block g3 hlt7).trans h7
  have b08 := b7.trans (hb8.mono b7.size)
  obtain ⟨W9, hW9, h9, b9, k9, s9⟩ := setP h83 8 (.slice a8 n c8) w.heap.size w b08 hs3
  have h92 := (k9 g2 hne).trans h82
  have f44 := froz_of h4 4
  have c44 := cell_of h4 (i := 4) (v := .int .i64 o) rfl
  have f55 := froz_of h5 5
  have c55 := cell_of h5 (i := 5) (v := .bool m) rfl
  have f66 := froz_of h6 6
  have c66 := cell_of h6 (i := 6) (v := .bool q) rfl
  have f88 := froz_of h83 8
  have c88 := cell_of h83 (i := 8) (v := ov) rfl
  have H31 := hid h21
  have H3 := hid h3
  have H9 := hid h9
  have H92 := hid h92
  have HB9 := hid b9
  have HY9 := hid (hy8.keep (w' := W9) (fun b hb hl => k9 b (fun e => by rw [e] at hb; exact absurd hlt7 (Nat.not_lt.2 hb))))
  have HC8 := hid hc8
  have HS2 := hid hs2
  have HL7 := hid hlt72
  have HB7 := hid b7
  have HOV := hid hov
  clear h1 h2 h21 h31 h32 h3 h4 h42 h5 h6 h7 h72 h82 h83 h9 h92 b1 b2 b3 b02 b03 b4 b5 b6 b7 b08 b9 k5 k6 k7 k9 s5 s6 s7 s9 hy8 hc8 hb8 hb hn hlt72 hlt7 hne hl2 hs2 hs3 hov
  have HW1 := hW1.symm
  have HW2 := hW2.symm
  have HW3 := hW3.symm
  have HW4 := hW4.symm
  have HW5 := hW5.symm
  have HW6 := hW6.symm
  have HW7 := hW7.symm
  have HW9 := hW9.symm
  clear hW1 hW2 hW3 hW4 hW5 hW6 hW7 hW9
  go_enter Try.func33, Try.ntmps33
  go_wp2_with (first
    | (at_builtin; refine wpList_append_run rfl _ _ 22 rfl rfl rfl hap ?_)
    | (refine wpList_load_row rfl 30 _ rfl g rfl 30 _ (0, 0) _ H31.out Try.underlying30 rfl sizeDk ?_)
    | (refine wpList_load_row rfl 30 _ rfl g3 rfl 30 _ (0, 0) _ H9.out Try.underlying30 rfl sizeDk ?_)
    | (refine wpList_store_row rfl 30 _ _ rfl g3 (pkC s d pr i o m q t ov) rfl rfl 30 _ H3.out sizeDk rfl (pkC_one _ _ _ _ _ _ _ _ _ HOV.out) ?_; rw [HW4])
    | (refine wpList_store_row rfl 30 _ _ rfl g2 (pkC s d pr i 0 mo (!mo) t (.slice a8 n c8)) rfl rfl 30 _ H92.out sizeDk rfl (pkC_one _ _ _ _ _ _ _ _ _ rfl) ?_))
  refine bodyPost_ret (results_c rfl _ _ g2 (pkC s d pr i 0 mo (!mo) t (.slice a8 n c8)) _ _ rfl (setRow_heap _ g2 _ _ _ _ H92.out) Try.underlying30 sizeDk) rfl ⟨a8, c8, rfl, ?_, HC8.out, ?_⟩
  · refine (HY9.out.keep (fun x hx hl => setRow_other W9 g2 x _ (fun e => ?_))).weak (fun x hx _ => Nat.le_trans HB7.out.size hx)
    have := HL7.out
    subst e
    exact absurd this (Nat.not_lt.2 hx)
  · exact (setRow_mods W9 g2 _).to_below HB9.out HB9.out.size (fun x hx => by rw [hx]; exact HS2.out)
set_option maxRecDepth 100000 in
set_option maxHeartbeats 2000000 in
theorem rtwin_n (w : World) (s d pr i o : Int) (m q : Bool) (t : Int) (ov : Value) (off : Int) (mo : Bool) (a : Option Addr) (n c : Nat) (l : List Int) (hoff : ¬ off = 0) (hov : ov.oneCell' = true) (hn : l.length = n) (hl : n ≤ 900000) (hb : Bytes w a l) :
    Calls Try.prog 33 #[.agg (pkC s d pr i o m q t ov), .int .i64 off, .slice a n c, .bool mo] w fun e w' => ∃ a2 c2, e = .returned (.agg (pkC s d pr i off mo false t (.slice a2 n c2))) ∧ By w' (New w) a2 l ∧ n ≤ c2 ∧ Below w.heap.size w w' := by
  have hd : (off == 0) = false := by simp [hoff]
  have hd2 : decide (off = 0) = false := by simp [hoff]
  obtain ⟨W1, hW1, h1, b1⟩ := boxP w (pkC s d pr i o m q t ov) 30
  obtain ⟨g, hg⟩ : ∃ g, w.heap.size = g := ⟨_, rfl⟩
  obtain ⟨W2, hW2, h2, b2⟩ := boxP W1 (pkC 0 0 0 0 0 false false 0 (.slice none 0 0)) 30
  obtain ⟨g2, hg2⟩ : ∃ g, W1.heap.size = g := ⟨_, rfl⟩
  obtain ⟨W3, hW3, h3, b3⟩ := boxP W2 (pkC 0 0 0 0 0 false false 0 (.slice none 0 0)) 30
  obtain ⟨g3, hg3⟩ : ∃ g, W2.heap.size = g := ⟨_, rfl⟩
  have h21 := (b2.block _ (Array.getElem?_eq_some_iff.1 h1).1).trans h1
  have h31 := (b3.block _ (Array.getElem?_eq_some_iff.1 h21).1).trans h21
  have h32 := (b3.block _ (Array.getElem?_eq_some_iff.1 h2).1).trans h2
  have hl2 := (Array.getElem?_eq_some_iff.1 h2).1
  have hne : g2 ≠ g3 := by rw [← hg2, ← hg3]; omega
  have hs2 : w.heap.size ≤ g2 := by rw [← hg2]; exact b1.size
  have hs3 : w.heap.size ≤ g3 := by rw [← hg3]; exact Nat.le_trans b1.size b2.size
  rw [hg] at h1 h21 h31
  rw [hg2] at h2 h32
  rw [hg3] at h3
  have b02 := b1.trans (b2.mono b1.size)
  have b03 := b02.trans (b3.mono b02.size)
  obtain ⟨W4, hW4⟩ : ∃ W, W = W3.setRow g3 (pkC s d pr i o m q t ov) := ⟨_, rfl⟩
  have h4 : W4.heap[g3]? = some (.cells (pkC s d pr i o m q t ov) 30 (0, 0)) := by rw [hW4]; exact setRow_heap _ _ _ _ _ _ h3
  have h42 : W4.heap[g2]? = some (.cells (pkC 0 0 0 0 0 false false 0 (.slice none 0 0)) 30 (0, 0)) := by rw [hW4, setRow_other _ _ _ _ hne]; exact h32
  have b4 : Below w.heap.size w W4 := by rw [hW4]; exact (setRow_mods _ _ _).to_below b03 b03.size (fun x hx => by rw [hx]; exact hs3)
  obtain ⟨W5, hW5, h5, b5, k5, s5⟩ := setP h4 4 (.int .i64 off) w.heap.size w b4 hs3
  obtain ⟨W6, hW6, h6, b6, k6, s6⟩ := setP h5 5 (.bool mo) w.heap.size w b5 hs3
  obtain ⟨W7, hW7, h7, b7, k7, s7⟩ := setP h6 6 (.bool false) w.heap.size w b6 hs3
  have h72 := (k7 g2 hne).trans ((k6 g2 hne).trans ((k5 g2 hne).trans h42))
  obtain ⟨a8, c8, w8, hap, hy8, hc8, hb8⟩ := twinY W7 a n c l hn hl (hb.later b7) 22
  have hlt72 := (Array.getElem?_eq_some_iff.1 h72).1
  have hlt7 := (Array.getElem?_eq_some_iff.1 h7).1
  have h82 := (hb8.block g2 hlt72).trans h72
  have h83 := (hb8.block g3 hlt7).trans h7
  have b08 := b7.trans (hb8.mono b7.size)
  obtain ⟨W9, hW9, h9, b9, k9, s9⟩ := setP h83 8 (.slice a8 n c8) w.heap.size w b08 hs3
  have h92 := (k9 g2 hne).trans h82
  have f44 := froz_of h4 4
  have c44 := cell_of h4 (i := 4) (v := .int .i64 o) rfl
  have f55 := froz_of h5 5
  have c55 := cell_of h5 (i := 5) (v := .bool m) rfl
  have f66 := froz_of h6 6
  have c66 := cell_of h6 (i := 6) (v := .bool q) rfl
  have f88 := froz_of h83 8
  have c88 := cell_of h83 (i := 8) (v := ov) rfl
  have H31 := hid h21
  have H3 := hid h3
  have H9 := hid h9
  have H92 := hid h92
  have HB9 := hid b9
  have HY9 := hid (hy8.keep (w' := W9) (fun b hb hl => k9 b (fun e => by rw [e] at hb; exact absurd hlt7 (Nat.not_lt.2 hb))))
  have HC8 := hid hc8
  have HS2 := hid hs2
  have HL7 := hid hlt72
  have HB7 := hid b7
  have HOV := hid hov
  clear h1 h2 h21 h31 h32 h3 h4 h42 h5 h6 h7 h72 h82 h83 h9 h92 b1 b2 b3 b02 b03 b4 b5 b6 b7 b08 b9 k5 k6 k7 k9 s5 s6 s7 s9 hy8 hc8 hb8 hb hn hlt72 hlt7 hne hl2 hs2 hs3 hov
  have HW1 := hW1.symm
  have HW2 := hW2.symm
  have HW3 := hW3.symm
  have HW4 := hW4.symm
  have HW5 := hW5.symm
  have HW6 := hW6.symm
  have HW7 := hW7.symm
  have HW9 := hW9.symm
  clear hW1 hW2 hW3 hW4 hW5 hW6 hW7 hW9
  go_enter Try.func33, Try.ntmps33
  go_wp2_with (first
    | (at_builtin; refine wpList_append_run rfl _ _ 22 rfl rfl rfl hap ?_)
    | (refine wpList_load_row rfl 30 _ rfl g rfl 30 _ (0, 0) _ H31.out Try.underlying30 rfl sizeDk ?_)
    | (refine wpList_load_row rfl 30 _ rfl g3 rfl 30 _ (0, 0) _ H9.out Try.underlying30 rfl sizeDk ?_)
    | (refine wpList_store_row rfl 30 _ _ rfl g3 (pkC s d pr i o m q t ov) rfl rfl 30 _ H3.out sizeDk rfl (pkC_one _ _ _ _ _ _ _ _ _ HOV.out) ?_; rw [HW4])
    | (refine wpList_store_row rfl 30 _ _ rfl g2 (pkC s d pr i off mo false t (.slice a8 n c8)) rfl rfl 30 _ H92.out sizeDk rfl (pkC_one _ _ _ _ _ _ _ _ _ rfl) ?_))
  refine bodyPost_ret (results_c rfl _ _ g2 (pkC s d pr i off mo false t (.slice a8 n c8)) _ _ rfl (setRow_heap _ g2 _ _ _ _ H92.out) Try.underlying30 sizeDk) rfl ⟨a8, c8, rfl, ?_, HC8.out, ?_⟩
  · refine (HY9.out.keep (fun x hx hl => setRow_other W9 g2 x _ (fun e => ?_))).weak (fun x hx _ => Nat.le_trans HB7.out.size hx)
    have := HL7.out
    subst e
    exact absurd this (Nat.not_lt.2 hx)
  · exact (setRow_mods W9 g2 _).to_below HB9.out HB9.out.size (fun x hx => by rw [hx]; exact HS2.out)
theorem rtwin_any (w : World) (s d pr i o : Int) (m q : Bool) (t : Int) (ov : Value) (off : Int) (mo : Bool) (a : Option Addr) (n c : Nat) (l : List Int) (hov : ov.oneCell' = true) (hn : l.length = n) (hl : n ≤ 900000) (hb : Bytes w a l) :
    Calls Try.prog 33 #[.agg (pkC s d pr i o m q t ov), .int .i64 off, .slice a n c, .bool mo] w fun e w' => ∃ a2 c2, e = .returned (.agg (pkC s d pr i off mo (decide (off = 0) && !mo) t (.slice a2 n c2))) ∧ By w' (New w) a2 l ∧ n ≤ c2 ∧ Below w.heap.size w w' := by
  by_cases h : off = 0
  · subst h
    simpa using rtwin_0 w s d pr i o m q t ov mo a n c l hov hn hl hb
  · have := rtwin_n w s d pr i o m q t ov off mo a n c l h hov hn hl hb
    simpa [h] using this
end Go.Proofs.Ytgdajplloamjcaa
