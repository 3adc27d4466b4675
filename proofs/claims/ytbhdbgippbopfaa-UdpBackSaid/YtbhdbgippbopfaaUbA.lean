/- Package udp's Write. -/
import Derived.Test.YtbhdbgippbopfaaUaB
namespace Go.Proofs.Ytbhdbgippbopfaa
open Go.RowKit Go.Maps
set_option linter.unusedVariables false
/-- A datagram's cells. -/
@[reducible] def dgC (f t : Int) (v : Value) : Array Value := #[.int .i64 f, .int .i64 t, v]
theorem dgC_one (f t : Int) (a : Option Addr) (n c : Nat) : (dgC f t (.slice a n c)).all (·.oneCell') = true := by simp [dgC, Value.oneCell']
theorem sizeDg : (Try.prog.info? 25).map (·.size) = some 3 := by kernel_rfl
theorem GO.none (w : World) (B : Nat) : GO w B (.slice none 0 0) [] := ⟨fun x hx => by simp at hx, rfl, .inl ⟨rfl, rfl⟩⟩
def h6L (f t : Int) (n : Nat) : List Int := outBe [] 2 [f, t, 8 + (n : Int)]
theorem h6L_len (f t : Int) (n : Nat) : (h6L f t n).length = 6 := by unfold h6L; rw [outBe_len]; rfl
theorem h6L_isB (f t : Int) (n : Nat) : ∀ x ∈ h6L f t n, IsB x := outBe_isB _ _ _ (fun x hx => by simp at hx)
def wrOk (f t : Int) : Prop := (0 ≤ f ∧ f ≤ 65535) ∧ (0 ≤ t ∧ t ≤ 65535)
instance (f t : Int) : Decidable (wrOk f t) := by unfold wrOk; infer_instance
def wrE (f t : Int) (n : Nat) : Int := if ¬ wrOk f t then 1 else if 65507 < n then 5 else 0
def wrS (s d f t : Int) (l : List Int) : Int := udS s d (h6L f t l.length ++ l)
def dgL (s d f t : Int) (l : List Int) : List Int := outBe (h6L f t l.length) 2 [wrS s d f t l] ++ l
def wrL (s d f t : Int) (l : List Int) : List Int := if wrE f t l.length = 0 then dgL s d f t l else []
theorem dgL_len (s d f t : Int) (l : List Int) : (dgL s d f t l).length = 8 + l.length := by unfold dgL; rw [List.length_append, outBe_len, h6L_len]; rfl
theorem h6_isB (f t : Int) (l : List Int) (h : ∀ x ∈ l, IsB x) : ∀ x ∈ h6L f t l.length ++ l, IsB x := fun x hx => by
  rcases List.mem_append.1 hx with h1 | h1
  · exact h6L_isB _ _ _ x h1
  · exact h x h1
set_option maxRecDepth 100000 in
set_option maxHeartbeats 8000000 in
theorem Write_any (w : World) (s d f t : Int) (a : Option Addr) (n c : Nat) (l : List Int) (hs : IsU s) (hd : IsU d) (hf : II f) (ht : II t) (hn : l.length = n) (hl : n ≤ 70000) (hb : Bytes w a l) :
    Calls Try.prog 9 #[.int .u32 s, .int .u32 d, .agg (dgC f t (.slice a n c))] w fun e w' => ∃ a2 c2, e = .returned (.tuple #[.slice a2 (wrL s d f t l).length c2, .int .i64 (wrE f t n)]) ∧ GO w' w.heap.size (.slice a2 (wrL s d f t l).length c2) (wrL s d f t l) ∧ Below w.heap.size w w' := by
  obtain ⟨W1, hW1, h1, b1⟩ := boxP w (dgC f t (.slice a n c)) 25
  obtain ⟨g, hg⟩ : ∃ g, w.heap.size = g := ⟨_, rfl⟩
  rw [hg] at h1
  unfold II at hf ht
  have p0 := cell_of h1 (i := 0) (v := .int .i64 f) rfl
  have p1 := cell_of h1 (i := 1) (v := .int .i64 t) rfl
  have p2 := cell_of h1 (i := 2) (v := .slice a n c) rfl
  have hdef : wrL s d f t l = if wrE f t n = 0 then dgL s d f t l else [] := by unfold wrL; rw [hn]
  have H1 := hid h1
  have HB1 := hid b1
  have HG := hid hg
  have HN := hid hn
  have HBY := hid hb
  have HW := hW1.symm
  clear h1 b1 hW1 hn hb
  rw [hdef]
  clear hdef
  by_cases k1 : 0 ≤ f ∧ f ≤ 65535
  · have d1 : decide (0 ≤ f ∧ f ≤ 65535) = true := decide_eq_true k1
    by_cases k2 : 0 ≤ t ∧ t ≤ 65535
    · have d2 : decide (0 ≤ t ∧ t ≤ 65535) = true := decide_eq_true k2
      by_cases k3 : 65507 < n
      · have e0 : wrE f t n = 5 := by unfold wrE; rw [if_neg (not_not_intro ⟨k1, k2⟩), if_pos k3]
        rw [e0, if_neg (by omega)]
        have k3i : (65507 : Int) < n := by omega
        clear e0 k1 k2 k3
        have HI1 := hid (isPort_any f W1)
        have HI2 := hid (isPort_any t W1)
        rw [d1] at HI1
        rw [d2] at HI2
        clear d1 d2
        go_enter Try.func9, Try.ntmps9
        go_wp2_with (first
          | (go_at_call 19; refine HI1.out.mono ?_; rintro e w2 ⟨rfl, hw2⟩; obtain rfl : W1 = w2 := hw2.symm; clear HI1)
          | (go_at_call 19; refine HI2.out.mono ?_; rintro e w2 ⟨rfl, hw2⟩; obtain rfl : W1 = w2 := hw2.symm; clear HI2))
        go_ret2
        have h2 := HB1.out
        first | exact ⟨none, 0, rfl, GO.none _ _, h2⟩ | (rw [HG.out] at h2; exact ⟨none, 0, rfl, GO.none _ _, h2⟩)
      · have e0 : wrE f t n = 0 := by unfold wrE; rw [if_neg (not_not_intro ⟨k1, k2⟩), if_neg k3]
        rw [e0, if_pos rfl, dgL_len, HN.out]
        have k3i : ¬ ((65507 : Int) < n) := by omega
        obtain ⟨H6, hH6⟩ : ∃ L, L = h6L f t n := ⟨_, rfl⟩
        obtain ⟨S, hS⟩ : ∃ S, S = udS s d (H6 ++ l) := ⟨_, rfl⟩
        have hI6 : ∀ x ∈ H6 ++ l, IsB x := by rw [hH6, ← HN.out]; exact h6_isB f t l HBY.out.isB
        have hSb := udS_bd s d _ hI6
        rw [← hS] at hSb
        have HHL := hid (show outBe H6 2 [S] ++ l = dgL s d f t l by rw [hS, hH6, ← HN.out]; rfl)
        have H6L := hid (show H6.length = 6 by rw [hH6]; exact h6L_len _ _ _)
        have HH6 := hid (show outBe [] 2 [f, t, 8 + (n : Int)] = H6 by rw [hH6]; rfl)
        have HSS := hid hS
        have HRG := hid (And.intro k1 (And.intro k2 (And.intro k3 hSb)))
        have hw2 : IntKind.u64.wrap (8 + (n : Int)) = 8 + (n : Int) := IntWalk.u64_in _ (by omega)
        have hw1 : IntKind.i64.wrap (8 + (n : Int)) = 8 + (n : Int) := IntWalk.i64_in _ (by omega)
        have hw3 : IntKind.u64.wrap f = f := IntWalk.u64_in _ (by omega)
        have hw4 : IntKind.u64.wrap t = t := IntWalk.u64_in _ (by omega)
        clear e0 k1 k2 k3 hH6 hS hI6 hSb
        have HI1 := hid (isPort_any f W1)
        have HI2 := hid (isPort_any t W1)
        rw [d1] at HI1
        rw [d2] at HI2
        clear d1 d2
        go_enter Try.func9, Try.ntmps9
        go_upto_region 6 with (first
          | (go_at_call 19; refine HI1.out.mono ?_; rintro e w2 ⟨rfl, hw2⟩; obtain rfl : W1 = w2 := hw2.symm; clear HI1)
          | (go_at_call 19; refine HI2.out.mono ?_; rintro e w2 ⟨rfl, hw2⟩; obtain rfl : W1 = w2 := hw2.symm; clear HI2))
        obtain ⟨W2, hW2, b2⟩ := newW W1 (.cells #[.int .u64 f, .int .u64 t, .int .u64 (8 + (n : Int))] 44)
        have HP := hid (putBeW W2 none (some ⟨W1.heap.size, 0, none⟩) 0 0 2 3 3 [] [f, t, 8 + (n : Int)] rfl rfl (by omega) (by omega) (.inr (.inl rfl)) (fun v hv => by have := HRG.out; simp at hv; rcases hv with rfl | rfl | rfl <;> omega) (Bytes.nil_ _ _) (by rw [hW2]; exact words_new W1 _ [f, t, 8 + (n : Int)] (fun v hv => by have := HRG.out; simp at hv; rcases hv with rfl | rfl | rfl <;> omega)))
        have HB2 := hid (HB1.out.trans (b2.mono HB1.out.size))
        have HBX2 := hid ((b2.block g (Array.getElem?_eq_some_iff.1 H1.out).1).trans H1.out)
        have HW2 := hW2.symm
        clear b2 hW2
        go_upto_region 7 with (go_at_call 20; refine HP.out.mono ?_; rintro e w3 ⟨a3, c3, rfl, hg3, hb3⟩; rw [HH6.out] at hg3; have HG3 := hid hg3; have HB3 := hid (HB2.out.trans (hb3.mono HB2.out.size)); have h3 := (hb3.block g (Array.getElem?_eq_some_iff.1 HBX2.out).1).trans HBX2.out; have H3 := hid h3; clear hg3 hb3 h3 HP)
        clear HW2 p0 p1 p2
        have hg3 : GO w3 W2.heap.size (.slice a3 6 c3) H6 := HG3.out
        obtain ⟨x3, y3, e3, hc3, hy3⟩ := hg3.by_ (S := New W2) (fun _ h => h)
        rw [H6L.out] at e3
        simp only [Value.slice.injEq, true_and] at e3
        obtain ⟨rfl, rfl⟩ := e3
        have p32 := cell_of H3.out (i := 2) (v := .slice a n c) rfl
        obtain ⟨W4, hW4, b4⟩ := newW w3 (.cells #[.slice a3 6 c3, .slice a n c] 23)
        have b04 := HB3.out.trans (b4.mono HB3.out.size)
        have hS4 := sum_any W4 s d w3.heap.size a3 a 6 n c3 c H6 l hs hd H6L.out HN.out (by have := HRG.out; omega) (by rw [hW4]; exact cell_of (alloc_new w3 _) rfl) (by rw [hW4]; exact cell_of (alloc_new w3 _) rfl) (hy3.bytes.later b4) (HBY.out.later b04)
        rw [← HSS.out] at hS4
        have HS4 := hid hS4
        have HB4 := hid b04
        have H4 := hid ((b4.block g (Array.getElem?_eq_some_iff.1 H3.out).1).trans H3.out)
        have HY4 := hid (hy3.bytes.later b4)
        have HW4 := hW4.symm
        clear hW4 b4 b04 hS4 hg3 hc3 hy3 HG3
        have hcell := H4.out
        go_upto_region 8 with (first
          | (go_at_call 15; refine HS4.out.mono ?_; rintro e w5 ⟨rfl, hb5⟩; clear HS4; obtain ⟨W6, hW6, b6⟩ := newW w5 (.cells #[.int .u64 S] 44); have b06 := (HB4.out.trans (hb5.mono HB4.out.size)); have HY6 := (HY4.out.later hb5).later b6; have HP := hid (putBeW W6 a3 (some ⟨w5.heap.size, 0, none⟩) 6 c3 2 1 1 H6 [S] H6L.out rfl (by omega) (by omega) (.inr (.inl rfl)) (fun v hv => by have := HRG.out; simp at hv; rw [hv]; omega) HY6 (by rw [hW6]; exact words_new w5 _ [S] (fun v hv => by have := HRG.out; simp at hv; rw [hv]; omega))); have HB6 := hid (b06.trans (b6.mono b06.size)); have H6' := hid ((b6.block g (Nat.lt_of_lt_of_le (Array.getElem?_eq_some_iff.1 H4.out).1 hb5.size)).trans ((hb5.block g (Array.getElem?_eq_some_iff.1 H4.out).1).trans H4.out)); have HW6 := hW6.symm; clear hW6 b6 hb5 b06 HY6)
          | (go_at_call 20; refine HP.out.mono ?_; rintro e w7 ⟨a7, c7, rfl, hg7, hb7⟩; have HG7 := hid hg7; have HB67 := hid hb7; have HB7 := hid (HB6.out.trans (hb7.mono HB6.out.size)); have H7 := hid ((hb7.block g (Array.getElem?_eq_some_iff.1 H6'.out).1).trans H6'.out); clear hg7 hb7 HP))
        clear HW4 HW6 p32 hcell
        have p72 := cell_of H7.out (i := 2) (v := .slice a n c) rfl
        have hg7 : GO w7 W6.heap.size (.slice a7 8 c7) (outBe H6 2 [S]) := HG7.out
        obtain ⟨a8, c8, w8, hap, hg8, hb8⟩ := hg7.push (by rw [outBe_len, H6L.out]; rfl) HB67.out.size l a n c HN.out (HBY.out.later HB7.out) (by have := HRG.out; omega) 23
        rw [HHL.out] at hg8
        have HG8 := hid (show GO w8 w.heap.size (.slice a8 (8 + n) c8) (dgL s d f t l) from ⟨hg8.1, owns_base hg8.2 (fun gg hh => Nat.le_trans HB6.out.size (owns_lt hg8.2 hh).2)⟩)
        have HB8 := hid (HB7.out.trans (hb8.mono HB6.out.size))
        clear hg7 hg8 hb8 HG7
        go_wp2_with (at_builtin; refine wpList_append_run rfl _ _ 23 rfl rfl rfl hap ?_)
        go_ret2
        have h2 := HB8.out
        have h3 := HG8.out
        first | exact ⟨a8, c8, rfl, h3, h2⟩ | (rw [HG.out] at h2 h3; exact ⟨a8, c8, rfl, h3, h2⟩)
    · have e0 : wrE f t n = 1 := by unfold wrE; rw [if_pos (fun h => k2 h.2)]
      rw [e0, if_neg (by omega)]
      have d2 : decide (0 ≤ t ∧ t ≤ 65535) = false := decide_eq_false k2
      clear e0 k1 k2
      have HI1 := hid (isPort_any f W1)
      have HI2 := hid (isPort_any t W1)
      rw [d1] at HI1
      rw [d2] at HI2
      clear d1 d2
      go_enter Try.func9, Try.ntmps9
      go_wp2_with (first
        | (go_at_call 19; refine HI1.out.mono ?_; rintro e w2 ⟨rfl, hw2⟩; obtain rfl : W1 = w2 := hw2.symm; clear HI1)
        | (go_at_call 19; refine HI2.out.mono ?_; rintro e w2 ⟨rfl, hw2⟩; obtain rfl : W1 = w2 := hw2.symm; clear HI2))
      go_ret2
      have h2 := HB1.out
      first | exact ⟨none, 0, rfl, GO.none _ _, h2⟩ | (rw [HG.out] at h2; exact ⟨none, 0, rfl, GO.none _ _, h2⟩)
  · have e0 : wrE f t n = 1 := by unfold wrE; rw [if_pos (fun h => k1 h.1)]
    rw [e0, if_neg (by omega)]
    have d1 : decide (0 ≤ f ∧ f ≤ 65535) = false := decide_eq_false k1
    clear e0 k1
    have HI1 := hid (isPort_any f W1)
    rw [d1] at HI1
    clear d1
    go_enter Try.func9, Try.ntmps9
    go_wp2_with (go_at_call 19; refine HI1.out.mono ?_; rintro e w2 ⟨rfl, hw2⟩; obtain rfl : W1 = w2 := hw2.symm; clear HI1)
    go_ret2
    have h2 := HB1.out
    first | exact ⟨none, 0, rfl, GO.none _ _, h2⟩ | (rw [HG.out] at h2; exact ⟨none, 0, rfl, GO.none _ _, h2⟩)
end Go.Proofs.Ytbhdbgippbopfaa
