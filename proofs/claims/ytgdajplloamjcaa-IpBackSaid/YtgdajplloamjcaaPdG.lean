/- IpBack: a packet that may be written is read as it; one bit of its header turned is seen. -/
import Derived.Test.YtgdajplloamjcaaPdE
import Derived.Test.YtgdajplloamjcaaPdF
namespace Go.Proofs.Ytgdajplloamjcaa
open Go.RowKit Go.Maps
set_option linter.unusedVariables false
set_option maxRecDepth 100000 in
set_option maxHeartbeats 4000000 in
theorem IpBack_bad (w : World) (s d pr i o : Int) (m q : Bool) (t : Int) (a : Option Addr) (n c : Nat) (l : List Int) (am : Option Addr) (nm cm : Nat) (at_ bit : Int) (hs : IsU s) (hd : IsU d) (hpr : II pr) (hi : II i) (ho : II o) (ht : II t) (hn : l.length = n) (hl : n ≤ 70000) (hb : Bytes w a l) (hlm : nm ≤ 5000) (he : ¬ wrE pr i o m t n = 0) :
    Calls Try.prog 6 #[.agg (pkC s d pr i o m q t (.slice a n c)), .slice am nm cm, .int .i64 at_, .int .i64 bit] w fun e w' => e = .returned (.bool true) ∧ Below w.heap.size w w' := by
  obtain ⟨W1, hW1, h1, b1⟩ := boxP w (pkC s d pr i o m q t (.slice a n c)) 25
  obtain ⟨g, hg⟩ : ∃ g, w.heap.size = g := ⟨_, rfl⟩
  rw [hg] at h1
  have hWL : wrL s d pr i o m t l = [] := by unfold wrL; rw [hn, if_neg he]
  have hE : (wrE pr i o m t n != 0) = true := bne_iff_ne.2 he
  have HWR : Hid (∀ W, Below w.heap.size w W → Calls Try.prog 11 #[.agg (pkC s d pr i o m q t (.slice a n c))] W fun e w' => ∃ a2 c2, e = .returned (.tuple #[.slice a2 0 c2, .int .i64 (wrE pr i o m t n)]) ∧ Below W.heap.size W w') := hid (fun W hW => by
    have := Write_any W s d pr i o m q t a n c l hs hd hpr hi ho ht hn hl (hb.later hW)
    rw [hWL] at this
    refine this.mono ?_
    rintro e w' ⟨a2, c2, rfl, _, _, hb'⟩
    exact ⟨a2, c2, rfl, hb'⟩)
  generalize wrE pr i o m t n = E at *
  have hi70 : ¬ ((70000 : Int) < n) := by omega
  have hi50 : ¬ ((5000 : Int) < nm) := by omega
  have H1 := hid h1
  have HB1 := hid b1
  have HG := hid hg
  have HW := hW1.symm
  clear h1 b1 hW1 hn hb hWL he hs hd hpr hi ho ht
  go_enter Try.func6, Try.ntmps6
  go_wp2_with (first
    | (go_at_call 7; refine (known_any _).mono ?_; rintro e w2 ⟨rfl, hb2⟩; have h2 := (hb2.block g (Array.getElem?_eq_some_iff.1 H1.out).1).trans H1.out; have c28 := cell_of h2 (i := 8) (v := .slice a n c) rfl; have H2 := hid h2; have HB2 := hid (HB1.out.trans (hb2.mono HB1.out.size)); clear hb2 h2)
    | (refine wpList_load_row rfl 25 _ rfl g rfl 25 _ (0, 0) _ H2.out Try.underlying25 rfl sizePk ?_)
    | (go_at_call 11; refine (HWR.out _ HB2.out).mono ?_; rintro e w3 ⟨ab, cb, rfl, hb3⟩; have HB3 := hid (HB2.out.trans (hb3.mono HB2.out.size)); clear hb3 HWR))
  go_ret
  have h2 := HB3.out
  first | exact ⟨rfl, h2⟩ | (rw [HG.out] at h2; exact ⟨rfl, h2⟩)
set_option maxRecDepth 100000 in
set_option maxHeartbeats 4000000 in
theorem IpBack_big (w : World) (s d pr i o : Int) (m q : Bool) (t : Int) (a : Option Addr) (n c : Nat) (am : Option Addr) (nm cm : Nat) (at_ bit : Int) (hbig : 70000 < n ∨ 5000 < nm) (hn : n ≤ maxLen) (hnm : nm ≤ maxLen) :
    Calls Try.prog 6 #[.agg (pkC s d pr i o m q t (.slice a n c)), .slice am nm cm, .int .i64 at_, .int .i64 bit] w fun e w' => e = .returned (.bool true) ∧ Below w.heap.size w w' := by
  obtain ⟨W1, hW1, h1, b1⟩ := boxP w (pkC s d pr i o m q t (.slice a n c)) 25
  obtain ⟨g, hg⟩ : ∃ g, w.heap.size = g := ⟨_, rfl⟩
  rw [hg] at h1
  unfold maxLen at hn hnm
  have H1 := hid h1
  have HB1 := hid b1
  have HG := hid hg
  have HW := hW1.symm
  clear h1 b1 hW1
  by_cases k1 : 70000 < n
  · have hi70 : (70000 : Int) < n := by omega
    clear hbig
    go_enter Try.func6, Try.ntmps6
    go_wp2_with (go_at_call 7; refine (known_any _).mono ?_; rintro e w2 ⟨rfl, hb2⟩; have h2 := (hb2.block g (Array.getElem?_eq_some_iff.1 H1.out).1).trans H1.out; have c28 := cell_of h2 (i := 8) (v := .slice a n c) rfl; have HB2 := hid (HB1.out.trans (hb2.mono HB1.out.size)); clear hb2 h2)
    go_ret
    have h2 := HB2.out
    first | exact ⟨rfl, h2⟩ | (rw [HG.out] at h2; exact ⟨rfl, h2⟩)
  · have hi70 : ¬ ((70000 : Int) < n) := by omega
    have hi50 : (5000 : Int) < nm := by omega
    clear hbig
    go_enter Try.func6, Try.ntmps6
    go_wp2_with (go_at_call 7; refine (known_any _).mono ?_; rintro e w2 ⟨rfl, hb2⟩; have h2 := (hb2.block g (Array.getElem?_eq_some_iff.1 H1.out).1).trans H1.out; have c28 := cell_of h2 (i := 8) (v := .slice a n c) rfl; have HB2 := hid (HB1.out.trans (hb2.mono HB1.out.size)); clear hb2 h2)
    go_ret
    have h2 := HB2.out
    first | exact ⟨rfl, h2⟩ | (rw [HG.out] at h2; exact ⟨rfl, h2⟩)
theorem IpBack_walk (w : World) (s d pr i o : Int) (m q : Bool) (t : Int) (a : Option Addr) (n c : Nat) (l : List Int) (am : Option Addr) (nm cm : Nat) (lm : List Int) (at_ bit : Int) (hok : IsU s ∧ IsU d ∧ II pr ∧ II i ∧ II o ∧ II t) (hn : l.length = n) (hml : n ≤ maxLen) (hb : Bytes w a l) (hnm : lm.length = nm) (hmm : nm ≤ maxLen) (hbm : Bytes w am lm) :
    Calls Try.prog 6 #[.agg (pkC s d pr i o m q t (.slice a n c)), .slice am nm cm, .int .i64 at_, .int .i64 bit] w fun e w' => e = .returned (.bool true) ∧ Below w.heap.size w w' := by
  obtain ⟨hs, hd, hpr, hi, ho, ht⟩ := hok
  by_cases h1 : 70000 < n ∨ 5000 < nm
  · exact IpBack_big w s d pr i o m q t a n c am nm cm at_ bit h1 hml hmm
  · by_cases he : wrE pr i o m t n = 0
    · by_cases h0 : o = 0
      · subst h0
        exact IpBack_0 w s d pr i m q t a n c l am nm cm lm at_ bit hs hd hpr hi ht hn (by omega) hb hnm (by omega) hbm he
      · exact IpBack_n w s d pr i o m q t a n c l am nm cm lm at_ bit hs hd hpr hi ho ht hn (by omega) hb hnm (by omega) hbm he h0
    · exact IpBack_bad w s d pr i o m q t a n c l am nm cm at_ bit hs hd hpr hi ho ht hn (by omega) hb (by omega) he
end Go.Proofs.Ytgdajplloamjcaa
