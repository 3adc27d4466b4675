import Derived.Test.YtkmljnjikkmdhaaDoorRows
import Derived.Test.YtkmljnjikkmdhaaDoorWalkL
import Derived.WalkKit
import Derived.WalkSpells
import Derived.WalkLawsBesides
import Derived.Deep.QuietTactic
import Derived.BigQuiet
/-
  The walks of the document's own PutLe and PutBe, and of NumWrites: it returns true, and nothing old is changed. Conditions: the table is as the program lays it; at most 2^47 - 4096 bytes.
-/
namespace Go.Proofs.YtkmljnjikkmdhaaDoor
open Go.RowKit
set_option linter.unusedVariables false

theorem Own.later {w w' : World} {base : Nat} {v : Value} {l : List Int} (h : Own w base v l) (hb : Below w.heap.size w w') : Own w' base v l := by
  refine ⟨h.1, h.2.elim Or.inl (fun ⟨g, cap, cur, hv, hg, hh, r⟩ => Or.inr ⟨g, cap, cur, hv, hg, ?_, r⟩)⟩
  rw [hb.block g (by
    obtain ⟨hlt, _⟩ := Array.getElem?_eq_some_iff.1 hh
    exact hlt)]
  exact hh
theorem own_conv {w : World} {base : Nat} {v : Value} {l : List Int} (h : Own w base v l) : (convert 22 9 v).run Tryd.prog w = .ok (.string (strOfNums l)) w := by
  obtain ⟨h1, h2⟩ := h
  rcases h2 with ⟨rfl, h0⟩ | ⟨g, cap, cur, rfl, hg, hh, hn, hc, hs, ht⟩
  · obtain rfl := List.eq_nil_of_length_eq_zero h0
    exact run_convert_bytes_nil w 22 5 Tryd.underlying22 Tryd.underlying5 0 0 9 Tryd.underlying9
  · refine run_convert_bytes_arg w 22 5 Tryd.underlying22 Tryd.underlying5 g 0 l.length cap l rfl (fun i hi => ?_) 9 Tryd.underlying9
    have hi2 : i < cur.size := by omega
    have e := congrArg (fun q => q[i]?) ht
    simp [hi, hi2] at e
    simp [World.cell?, hh, hi2, e, List.getD, hi]
theorem row_conv {w : World} {g N : Nat} {l : List Int} (h : w.rowIs g 5 N (fun i => .int .u8 (l.getD i 0))) (hN : l.length = N) : (convert 22 9 (.slice (some ⟨g, 0, none⟩) N N)).run Tryd.prog w = .ok (.string (strOfNums l)) w :=
  run_convert_bytes_arg w 22 5 Tryd.underlying22 Tryd.underlying5 g 0 N N l hN (fun i hi => by rw [Nat.zero_add]; exact h.cell hi) 9 Tryd.underlying9
theorem nil_conv (w : World) : (convert 22 9 (.slice none 0 0)).run Tryd.prog w = .ok (.string ByteArray.empty) w := run_convert_bytes_nil w 22 5 Tryd.underlying22 Tryd.underlying5 0 0 9 Tryd.underlying9

set_option maxHeartbeats 400000 in
theorem refPut_width (v1 v2 : Value) (n : Int) (low : Bool) (w : World) (hn : widB n = false) :
    Calls Tryd.prog 33 #[v1, .int .i64 n, v2, .bool low] w fun e w' => e = .returned (.tuple #[.slice none 0 0, .int .i64 1]) ∧ w' = w := by
  have HN := hid hn
  clear hn
  go_enter Tryd.func33, Tryd.ntmps33
  go_wp2_with fail
  refine (size_any _ _).mono ?_
  rintro e w' ⟨rfl, rfl⟩
  rw [HN.out]
  go_wp2
  go_ret2
  exact ⟨rfl, rfl⟩

def PutPost (w : World) (n : Int) (l L : List Int) (e : Ending) (w' : World) : Prop :=
  ((widB n && fitsB n l) = false ∧ e = .returned (.tuple #[.slice none 0 0, .int .i64 1]) ∧ Below w.heap.size w w') ∨
  ((widB n && fitsB n l) = true ∧ ∃ v, e = .returned (.tuple #[v, .int .i64 0]) ∧ Below w.heap.size w w' ∧ Own w' w.heap.size v L)

theorem refPut_low (a a2 : Option Addr) (cap cap2 : Nat) (n : Int) (b l : List Int) (w : World) (hb : b.length ≤ 140737488351232) (hl : l.length ≤ 10000) (h : Bytes w a b) (hnil : a = none → cap = 0) (h2 : Words w a2 l) :
    Calls Tryd.prog 33 #[.slice a b.length cap, .int .i64 n, .slice a2 l.length cap2, .bool true] w fun e w' => PutPost w n l (outLe b n.toNat l) e w' := by
  cases hn : widB n
  · refine (refPut_width _ _ n true w hn).mono ?_
    rintro e w' ⟨rfl, rfl⟩
    exact .inl ⟨by simp [hn], rfl, Below.refl _ _⟩
  · unfold PutPost
    rcases widB_cases hn with rfl | rfl | rfl | rfl
    · simpa [hn] using refPut_true_1 a a2 cap cap2 b l w hb hl h hnil h2
    · simpa [hn] using refPut_true_2 a a2 cap cap2 b l w hb hl h hnil h2
    · simpa [hn] using refPut_true_4 a a2 cap cap2 b l w hb hl h hnil h2
    · simpa [hn] using refPut_true_8 a a2 cap cap2 b l w hb hl h hnil h2
theorem refPut_high (a a2 : Option Addr) (cap cap2 : Nat) (n : Int) (b l : List Int) (w : World) (hb : b.length ≤ 140737488351232) (hl : l.length ≤ 10000) (h : Bytes w a b) (hnil : a = none → cap = 0) (h2 : Words w a2 l) :
    Calls Tryd.prog 33 #[.slice a b.length cap, .int .i64 n, .slice a2 l.length cap2, .bool false] w fun e w' => PutPost w n l (outBe b n.toNat l) e w' := by
  cases hn : widB n
  · refine (refPut_width _ _ n false w hn).mono ?_
    rintro e w' ⟨rfl, rfl⟩
    exact .inl ⟨by simp [hn], rfl, Below.refl _ _⟩
  · unfold PutPost
    rcases widB_cases hn with rfl | rfl | rfl | rfl
    · simpa [hn] using refPut_false_1 a a2 cap cap2 b l w hb hl h hnil h2
    · simpa [hn] using refPut_false_2 a a2 cap cap2 b l w hb hl h hnil h2
    · simpa [hn] using refPut_false_4 a a2 cap cap2 b l w hb hl h hnil h2
    · simpa [hn] using refPut_false_8 a a2 cap cap2 b l w hb hl h hnil h2

set_option maxHeartbeats 400000 in
theorem refPutLe_any (a a2 : Option Addr) (cap cap2 : Nat) (n : Int) (b l : List Int) (w : World) (hb : b.length ≤ 140737488351232) (hl : l.length ≤ 10000) (h : Bytes w a b) (hnil : a = none → cap = 0) (h2 : Words w a2 l) :
    Calls Tryd.prog 18 #[.slice a b.length cap, .int .i64 n, .slice a2 l.length cap2] w fun e w' => PutPost w n l (outLe b n.toNat l) e w' := by
  have HB := hid h
  have HW := hid h2
  have HNil := hid hnil
  clear h h2 hnil
  go_enter Tryd.func18, Tryd.ntmps18
  go_wp2_with fail
  refine (refPut_low a a2 cap cap2 n b l _ hb hl HB.out HNil.out HW.out).mono ?_
  rintro e w' (⟨h1, rfl, h3⟩ | ⟨h1, v, rfl, h3, h4⟩)
  · have H1 := hid h1
    have H3 := hid h3
    clear h1 h3
    go_wp2
    go_ret2
    exact .inl ⟨H1.out, rfl, H3.out⟩
  · have H1 := hid h1
    have H3 := hid h3
    have H4 := hid h4
    clear h1 h3 h4
    go_wp2
    go_ret2
    exact .inr ⟨H1.out, v, rfl, H3.out, H4.out⟩
set_option maxHeartbeats 400000 in
theorem refPutBe_any (a a2 : Option Addr) (cap cap2 : Nat) (n : Int) (b l : List Int) (w : World) (hb : b.length ≤ 140737488351232) (hl : l.length ≤ 10000) (h : Bytes w a b) (hnil : a = none → cap = 0) (h2 : Words w a2 l) :
    Calls Tryd.prog 19 #[.slice a b.length cap, .int .i64 n, .slice a2 l.length cap2] w fun e w' => PutPost w n l (outBe b n.toNat l) e w' := by
  have HB := hid h
  have HW := hid h2
  have HNil := hid hnil
  clear h h2 hnil
  go_enter Tryd.func19, Tryd.ntmps19
  go_wp2_with fail
  refine (refPut_high a a2 cap cap2 n b l _ hb hl HB.out HNil.out HW.out).mono ?_
  rintro e w' (⟨h1, rfl, h3⟩ | ⟨h1, v, rfl, h3, h4⟩)
  · have H1 := hid h1
    have H3 := hid h3
    clear h1 h3
    go_wp2
    go_ret2
    exact .inl ⟨H1.out, rfl, H3.out⟩
  · have H1 := hid h1
    have H3 := hid h3
    have H4 := hid h4
    clear h1 h3 h4
    go_wp2
    go_ret2
    exact .inr ⟨H1.out, v, rfl, H3.out, H4.out⟩

set_option maxHeartbeats 400000 in
theorem numWrites_long (v1 : Value) (n : Int) (a2 : Option Addr) (len2 cap2 : Nat) (w : World) (hT : Tab w) (hl : 3000 < len2) :
    Calls Tryd.prog 4 #[v1, .int .i64 n, .slice a2 len2 cap2] w fun e w' => e = .returned (.bool true) ∧ Below w.heap.size w w' := by
  have HT := hid hT
  clear hT
  have hl2 : (3000 : Int) < (len2 : Int) := by omega
  go_enter Tryd.func4, Tryd.ntmps4
  go_wp2_with fail
  refine (known_any _ HT.out).mono ?_
  rintro e w1 ⟨rfl, hb1⟩
  have HB1 := hid hb1
  clear hb1
  go_wp2
  go_ret
  exact ⟨rfl, HB1.out⟩

set_option maxHeartbeats 1000000 in
theorem numWrites_no (a a2 : Option Addr) (cap cap2 : Nat) (n : Int) (b l : List Int) (w : World) (hb : b.length ≤ 140737488351232) (hl : l.length ≤ 3000) (h : Bytes w a b) (hnil : a = none → cap = 0) (h2 : Words w a2 l) (hT : Tab w) (hf : (widB n && fitsB n l) = false) :
    Calls Tryd.prog 4 #[.slice a b.length cap, .int .i64 n, .slice a2 l.length cap2] w fun e w' => e = .returned (.bool true) ∧ Below w.heap.size w w' := by
  have HT := hid hT
  have HB := hid h
  have HW := hid h2
  have HNil := hid hnil
  have HF := hid hf
  clear h h2 hnil hT hf
  have hl2 : ¬ ((3000 : Int) < (l.length : Int)) := by omega
  go_enter Tryd.func4, Tryd.ntmps4
  go_wp2_with fail
  refine (known_any _ HT.out).mono ?_
  rintro e w1 ⟨rfl, hb1⟩
  have HB1 := hid hb1
  have HBy := hid (HB.out.later hb1)
  have HWy := hid (HW.out.later hb1)
  clear hb1
  go_wp2_with fail
  refine (lend_any _ _ _ _ (by omega) HBy.out).mono ?_
  rintro e w2 ⟨rfl, hb2, hs2, hr2⟩
  have HB2 := hid hb2
  have HR2 := hid hr2
  clear hb2 hs2 hr2
  go_wp2_with fail
  refine (putLe_no _ a2 _ cap2 n b l w2 (by omega) (HWy.out.later HB2.out) HF.out).mono ?_
  rintro e w3 ⟨rfl, rfl⟩
  go_wp2_with fail
  refine (putBe_no _ a2 _ cap2 n b l w3 (by omega) (HWy.out.later HB2.out) HF.out).mono ?_
  rintro e w4 ⟨rfl, rfl⟩
  go_wp2_with fail
  refine (refPutLe_any a a2 cap cap2 n b l w4 hb (by omega) (HBy.out.later HB2.out) HNil.out (HWy.out.later HB2.out)).mono ?_
  rintro e w5 (⟨h1, rfl, h3⟩ | ⟨h1, v, rfl, h3, h4⟩)
  · have HB5 := hid h3
    clear h1 h3
    go_wp2_with fail
    refine (refPutBe_any a a2 cap cap2 n b l w5 hb (by omega) ((HBy.out.later HB2.out).later HB5.out) HNil.out ((HWy.out.later HB2.out).later HB5.out)).mono ?_
    rintro e w6 (⟨h1, rfl, h3⟩ | ⟨h1, v, rfl, h3, h4⟩)
    · have HB6 := hid (HB5.out.trans (h3.mono HB5.out.size))
      clear h1 h3
      have hcn := nil_conv
      go_wp2_with fail
      refine (kept_any _ a cap b w6 (by omega) (rowIs_later HR2.out HB6.out) ((HBy.out.later HB2.out).later HB6.out)).mono ?_
      rintro e w7 ⟨rfl, q, rfl⟩
      go_wp2
      go_ret
      exact ⟨rfl, below_drewN (HB1.out.trans ((HB2.out.trans (HB6.out.mono HB2.out.size)).mono HB1.out.size)) q⟩
    · rw [HF.out] at h1; cases h1
  · rw [HF.out] at h1; cases h1

set_option maxHeartbeats 1000000 in
theorem numWrites_yes (a a2 : Option Addr) (cap cap2 n : Nat) (b l : List Int) (w : World) (hb : b.length ≤ 140737488351232) (hl : l.length ≤ 3000) (h : Bytes w a b) (hnil : a = none → cap = 0) (h2 : Words w a2 l) (hT : Tab w) (hn : widB n = true) (hf : fitsB n l = true) :
    Calls Tryd.prog 4 #[.slice a b.length cap, .int .i64 n, .slice a2 l.length cap2] w fun e w' => e = .returned (.bool true) ∧ Below w.heap.size w w' := by
  have HT := hid hT
  have HB := hid h
  have HW := hid h2
  have HNil := hid hnil
  have HN := hid hn
  have HF := hid hf
  have HNF := hid (show (widB n && fitsB n l) = true by rw [hn, hf]; rfl)
  clear h h2 hnil hT hf hn
  have hl2 : ¬ ((3000 : Int) < (l.length : Int)) := by omega
  go_enter Tryd.func4, Tryd.ntmps4
  go_wp2_with fail
  refine (known_any _ HT.out).mono ?_
  rintro e w1 ⟨rfl, hb1⟩
  have HB1 := hid hb1
  have HBy := hid (HB.out.later hb1)
  have HWy := hid (HW.out.later hb1)
  clear hb1
  go_wp2_with fail
  refine (lend_any _ _ _ _ (by omega) HBy.out).mono ?_
  rintro e w2 ⟨rfl, hb2, hs2, hr2⟩
  have HB2 := hid hb2
  have HR2 := hid hr2
  have HM := hid (marks_bytes HBy.out.isB hr2)
  have HW2 := hid (HWy.out.later hb2)
  have HBy2 := hid (HBy.out.later hb2)
  clear hb2 hs2 hr2
  go_wp2_with fail
  refine (putLe_yes _ a2 _ cap2 n b l w2 hb (by omega) HM.out HW2.out HN.out HF.out).mono ?_
  rintro e w3 ⟨rfl, hb3, hs3, hr3⟩
  have HB3 := hid hb3
  have HR3 := hid hr3
  clear hb3 hs3 hr3
  go_wp2_with fail
  refine (putBe_yes _ a2 _ cap2 n b l w3 hb (by omega) (HM.out.later HB3.out) (HW2.out.later HB3.out) HN.out HF.out).mono ?_
  rintro e w4 ⟨rfl, hb4, hs4, hr4⟩
  have HB4 := hid hb4
  have HR4 := hid hr4
  have HB24 := hid (HB3.out.trans (hb4.mono HB3.out.size))
  clear hb4 hs4 hr4
  go_wp2_with fail
  refine (refPutLe_any a a2 cap cap2 n b l w4 hb (by omega) (HBy2.out.later HB24.out) HNil.out (HW2.out.later HB24.out)).mono ?_
  rintro e w5 (⟨h1, rfl, h3⟩ | ⟨h1, v5, rfl, h3, h4⟩)
  · rw [HNF.out] at h1; cases h1
  · have HB5 := hid h3
    have HO5 := hid h4
    have HB25 := hid (HB24.out.trans (h3.mono HB24.out.size))
    clear h1 h3 h4
    go_wp2_with fail
    refine (refPutBe_any a a2 cap cap2 n b l w5 hb (by omega) (HBy2.out.later HB25.out) HNil.out (HW2.out.later HB25.out)).mono ?_
    rintro e w6 (⟨h1, rfl, h3⟩ | ⟨h1, v6, rfl, h3, h4⟩)
    · rw [HNF.out] at h1; cases h1
    · have HB26 := hid (HB25.out.trans (h3.mono HB25.out.size))
      have HB46 := hid (HB5.out.trans (h3.mono HB5.out.size))
      have HB36 := hid (HB4.out.trans (HB46.out.mono HB4.out.size))
      have c1 := row_conv (rowIs_later HR3.out HB36.out) (by rw [outLe_len])
      have c2 := row_conv (rowIs_later HR4.out HB46.out) (by rw [outBe_len])
      have c3 := own_conv (HO5.out.later h3)
      have c4 := own_conv h4
      rw [Int.toNat_natCast] at c3 c4
      clear h1 h3 h4
      go_wp2_with fail
      refine (kept_any _ a cap b w6 (by omega) (rowIs_later HR2.out HB26.out) (HBy2.out.later HB26.out)).mono ?_
      rintro e w7 ⟨rfl, q, rfl⟩
      go_wp2
      go_ret
      exact ⟨rfl, below_drewN (HB1.out.trans ((HB2.out.trans (HB26.out.mono HB2.out.size)).mono HB1.out.size)) q⟩

theorem numWrites_walk (a a2 : Option Addr) (cap cap2 : Nat) (n : Int) (b l : List Int) (w : World) (hb : b.length ≤ 140737488351232) (h : Bytes w a b) (hnil : a = none → cap = 0) (h2 : Words w a2 l) (hT : Tab w) :
    Calls Tryd.prog 4 #[.slice a b.length cap, .int .i64 n, .slice a2 l.length cap2] w fun e w' => e = .returned (.bool true) ∧ Below w.heap.size w w' := by
  by_cases hl : 3000 < l.length
  · exact numWrites_long _ n a2 _ cap2 w hT hl
  · cases hf : (widB n && fitsB n l)
    · exact numWrites_no a a2 cap cap2 n b l w hb (by omega) h hnil h2 hT hf
    · simp at hf
      have := widB_cases hf.1
      obtain ⟨m, rfl⟩ := Int.eq_ofNat_of_zero_le (show 0 ≤ n by omega)
      exact numWrites_yes a a2 cap cap2 m b l w hb (by omega) h hnil h2 hT hf.1 hf.2
end Go.Proofs.YtkmljnjikkmdhaaDoor
