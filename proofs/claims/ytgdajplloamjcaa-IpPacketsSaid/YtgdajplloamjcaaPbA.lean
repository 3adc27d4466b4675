/- The small functions of package ip: isWhole, whole. -/
import Derived.Test.YtgdajplloamjcaaPaC
import Derived.Test.YtgdajplloamjcaaEcG
namespace Go.Proofs.Ytgdajplloamjcaa
open Go.RowKit Go.Maps
set_option linter.unusedVariables false

/-- A packet in a box of the call's own. -/
theorem boxP (w : World) (M : Array Value) (t : TypeId) : ∃ W1, W1 = w.alloc (.cells M t) ∧ W1.heap[w.heap.size]? = some (.cells M t (0, 0)) ∧ Below w.heap.size w W1 :=
  ⟨_, rfl, alloc_new w _, below_alloc (Below.refl _ _) (Nat.le_refl _) _⟩
theorem isWhole_any (w : World) (s d pr i o : Int) (m h : Bool) (t : Int) (v : Value) :
    Calls Try.prog 24 #[.agg (pkC s d pr i o m h t v)] w fun e w' => e = .returned (.bool (decide (o = 0) && !m)) ∧ Below w.heap.size w w' := by
  obtain ⟨W1, hW1, h1, b1⟩ := boxP w (pkC s d pr i o m h t v) 25
  obtain ⟨g, hg⟩ : ∃ g, w.heap.size = g := ⟨_, rfl⟩
  rw [hg] at h1
  have c4 := cell_of h1 (i := 4) (v := .int .i64 o) rfl
  have c5 := cell_of h1 (i := 5) (v := .bool m) rfl
  have HB := hid b1
  clear h1 b1
  have HW := hW1.symm
  clear hW1
  by_cases ho : o = 0
  · subst ho
    go_enter Try.func24, Try.ntmps24
    go_wp2
    go_ret
    exact ⟨ret_bool (by simp), HB.out⟩
  · have hd : (o == 0) = false := by simp [ho]
    have hd2 : decide (o = 0) = false := by simp [ho]
    go_enter Try.func24, Try.ntmps24
    go_wp2
    go_ret
    exact ⟨ret_bool (by simp [ho]), HB.out⟩
/-- bytes.Clone of any bytes, or of nil. -/
theorem Clone_all (w : World) (a : Option Addr) (n c : Nat) (l : List Int) (hn : l.length = n) (hl : n ≤ 900000) (hb : Bytes w a l) :
    Calls Try.prog 23 #[.slice a n c] w fun e w' => ∃ a2 c2, e = .returned (.slice a2 n c2) ∧ By w' (New w) a2 l ∧ n ≤ c2 ∧ Below w.heap.size w w' := by
  cases a with
  | some ad => exact Clone_y w ad n c l hn hl hb
  | none =>
    obtain rfl : l = [] := by
      cases l with
      | nil => rfl
      | cons x l => obtain ⟨b, off, ha, _⟩ := hb.open_ (by simp); simp at ha
    obtain rfl : n = 0 := by simpa using hn.symm
    have qT : ∀ (w : World) (a : Option Addr) (n c n' c' : Nat), (binOp .eql 22 (.slice a n c) (.slice none n' c')).run Try.prog w = .ok (.bool a.isNone) w := fun w a n c n' c' => Lib.run_eql_slice_nil w _ _ a n c n' c' Try.underlying22
    clear hb
    go_enter Try.func23, Try.ntmps23
    go_wp2
    go_ret
    exact ⟨none, 0, rfl, By.nil _ _ _, Nat.le_refl _, Below.refl _ _⟩
/-- A cell of a block is stored. -/
theorem setP {w : World} {g : Nat} {C : Array Value} {t : TypeId} (h : w.heap[g]? = some (.cells C t (0, 0))) (k : Nat) (v : Value) (B : Nat) (w0 : World) (hb : Below B w0 w) (hB : B ≤ g) :
    ∃ W, W = w.setCell ⟨g, k, none⟩ v ∧ W.heap[g]? = some (.cells (C.setIfInBounds k v) t (0, 0)) ∧ Below B w0 W ∧ (∀ b, b ≠ g → W.heap[b]? = w.heap[b]?) ∧ W.heap.size = w.heap.size := by
  refine ⟨_, rfl, setc h k v, ?_, fun b hb => ?_, by simp [World.setCell]⟩
  · exact ((Mods.refl (fun b => b = g) w).setCell g k v rfl).to_below hb (by have := (Array.getElem?_eq_some_iff.1 h).1; omega) (fun b hb => by rw [hb]; exact hB)
  · simp [World.setCell, Array.getElem?_modify, Ne.symm hb]
set_option maxRecDepth 100000 in
set_option maxHeartbeats 1000000 in
theorem whole_any (w : World) (s d pr i o : Int) (m h : Bool) (t : Int) (a : Option Addr) (n c : Nat) (l : List Int) (hn : l.length = n) (hl : n ≤ 900000) (hb : Bytes w a l) :
    Calls Try.prog 31 #[.agg (pkC s d pr i o m h t (.slice a n c))] w fun e w' => ∃ a2 c2, e = .returned (.agg (pkC s d pr i o m true t (.slice a2 n c2))) ∧ By w' (New w) a2 l ∧ n ≤ c2 ∧ Below w.heap.size w w' := by
  obtain ⟨W1, hW1, h1, b1⟩ := boxP w (pkC s d pr i o m h t (.slice a n c)) 25
  obtain ⟨g, hg⟩ : ∃ g, w.heap.size = g := ⟨_, rfl⟩
  obtain ⟨W2, hW2, h2, b2⟩ := boxP W1 (pkC 0 0 0 0 0 false false 0 (.slice none 0 0)) 25
  obtain ⟨g2, hg2⟩ : ∃ g, W1.heap.size = g := ⟨_, rfl⟩
  have hlt1 := (Array.getElem?_eq_some_iff.1 h1).1
  have h21 := (b2.block _ hlt1).trans h1
  have hne : g ≠ g2 := by rw [← hg, ← hg2]; omega
  rw [hg] at h1 h21
  rw [hg2] at h2
  have b02 := b1.trans (b2.mono b1.size)
  obtain ⟨W3, hW3, h3, b3, k3, s3⟩ := setP h21 6 (.bool true) w.heap.size w b02 (by omega)
  have h32 := (k3 g2 (Ne.symm hne)).trans h2
  have c26 := cell_of h21 (i := 6) (v := .bool h) rfl
  have f26 := froz_of h21 6
  have c38 := cell_of h3 (i := 8) (v := .slice a n c) rfl
  have HCL := hid (Clone_all W3 a n c l hn hl (hb.later b3))
  have H3 := hid h3
  have H32 := hid h32
  have HB3 := hid b3
  have HG := hid hg
  have HG2 := hid hg2
  have HNE := hid hne
  have HL2 : Hid (w.heap.size ≤ g2) := hid (by rw [← hg2]; exact b1.size)
  clear h1 h2 h21 b1 b2 b02 h3 h32 b3 k3 s3 hb hlt1 hn hne
  have HW1 := hW1.symm
  have HW2 := hW2.symm
  have HW3 := hW3.symm
  clear hW1 hW2 hW3
  go_enter Try.func31, Try.ntmps31
  go_wp2_with (first
    | (go_at_call 23; refine HCL.out.mono ?_; rintro e w4 ⟨a2, c2, rfl, hy4, hc4, hb4⟩; have h43 := (hb4.block g (Array.getElem?_eq_some_iff.1 H3.out).1).trans H3.out; have h42 := (hb4.block g2 (Array.getElem?_eq_some_iff.1 H32.out).1).trans H32.out; have b4 := HB3.out.trans (hb4.mono HB3.out.size); obtain ⟨W5, hW5, h5, b5, k5, s5⟩ := setP h43 8 (.slice a2 n c2) w.heap.size w b4 (by rw [HG.out]; exact Nat.le_refl _); have h52 := (k5 g2 (Ne.symm HNE.out)).trans h42; have c48 := cell_of h43 (i := 8) (v := .slice a n c) rfl; have f48 := froz_of h43 8; have H5 := hid h5; have H52 := hid h52; have HB5 := hid b5; have HY5 := hid (hy4.keep (w' := W5) (fun b hb hl => k5 b (fun e => by have := (Array.getElem?_eq_some_iff.1 H3.out).1; rw [e] at hb; exact absurd this (Nat.not_lt.2 hb)))); have HC := hid hc4; clear h43 h42 b4 h5 b5 k5 s5 h52 hy4 hc4 hb4; have HW5 := hW5.symm; clear hW5)
    | (refine wpList_load_row rfl 25 _ rfl g rfl 25 _ (0, 0) _ H5.out Try.underlying25 rfl sizePk ?_)
    | (refine wpList_store_row rfl 25 _ _ rfl g2 (pkC s d pr i o m true t (.slice a2 n c2)) rfl rfl 25 _ H52.out sizePk rfl (pkC_one _ _ _ _ _ _ _ _ _ rfl) ?_))
  refine bodyPost_ret (results_c rfl _ _ g2 (pkC s d pr i o m true t (.slice a2 n c2)) _ _ rfl (setRow_heap _ g2 _ _ _ _ H52.out) Try.underlying25 sizePk) rfl ⟨a2, c2, rfl, ?_, HC.out, ?_⟩
  · refine (HY5.out.keep (fun x hx hl => setRow_other W5 g2 x _ (fun e => ?_))).weak (fun x hx _ => Nat.le_trans HB3.out.size hx)
    have := (Array.getElem?_eq_some_iff.1 H32.out).1
    subst e
    exact absurd this (Nat.not_lt.2 hx)
  · exact (setRow_mods W5 g2 _).to_below HB5.out HB5.out.size (fun x hx => by rw [hx]; exact HL2.out)
end Go.Proofs.Ytgdajplloamjcaa
