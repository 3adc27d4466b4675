/- Package ip's header. -/
import Derived.Test.YtgdajplloamjcaaPbE
import Derived.Test.YtgdajplloamjcaaPbF
namespace Go.Proofs.Ytgdajplloamjcaa
open Go.RowKit Go.Maps
set_option linter.unusedVariables false
/-- The word of the flags. -/
def flW (o : Int) (m : Bool) : Int := o / 8 + (if m then 8192 else 0)
def hdA (n : Nat) (pr i o : Int) (m : Bool) (t : Int) : List Int := outBe (outBe [] 2 [17664, 20 + (n : Int), i, flW o m]) 1 [t, pr]
def hdE (s d : Int) : List Int := outBe [] 4 [s, d]
def hdS (n : Nat) (s d pr i o : Int) (m : Bool) (t : Int) : Int := inetL (hdA n pr i o m t ++ hdE s d)
def hdL (n : Nat) (s d pr i o : Int) (m : Bool) (t : Int) : List Int := outBe (hdA n pr i o m t) 2 [hdS n s d pr i o m t] ++ hdE s d
theorem outBe_isB (b : List Int) (k : Nat) (vs : List Int) (hb : ∀ x ∈ b, IsB x) : ∀ x ∈ outBe b k vs, IsB x := by
  intro x hx
  unfold outBe at hx
  rcases List.mem_append.1 hx with h | h
  · exact hb x h
  · obtain ⟨v, _, hv⟩ := List.mem_flatMap.1 h
    exact be_isB k v x hv
theorem hdA_len (n : Nat) (pr i o : Int) (m : Bool) (t : Int) : (hdA n pr i o m t).length = 10 := by unfold hdA; rw [outBe_len, outBe_len]; rfl
theorem hdE_len (s d : Int) : (hdE s d).length = 8 := by unfold hdE; rw [outBe_len]; rfl
theorem hdL_len (n : Nat) (s d pr i o : Int) (m : Bool) (t : Int) : (hdL n s d pr i o m t).length = 20 := by unfold hdL; rw [List.length_append, outBe_len, hdA_len, hdE_len]; rfl
theorem hdA_isB (n : Nat) (pr i o : Int) (m : Bool) (t : Int) : ∀ x ∈ hdA n pr i o m t, IsB x := outBe_isB _ _ _ (outBe_isB _ _ _ (fun x hx => by simp at hx))
theorem hdE_isB (s d : Int) : ∀ x ∈ hdE s d, IsB x := outBe_isB _ _ _ (fun x hx => by simp at hx)
theorem hdAE_isB (n : Nat) (s d pr i o : Int) (m : Bool) (t : Int) : ∀ x ∈ hdA n pr i o m t ++ hdE s d, IsB x := by
  intro x hx
  rcases List.mem_append.1 hx with h | h
  · exact hdA_isB _ _ _ _ _ _ x h
  · exact hdE_isB _ _ x h
theorem hdL_isB (n : Nat) (s d pr i o : Int) (m : Bool) (t : Int) : ∀ x ∈ hdL n s d pr i o m t, IsB x := by
  intro x hx
  rcases List.mem_append.1 hx with h | h
  · exact outBe_isB _ _ _ (hdA_isB _ _ _ _ _ _) x h
  · exact hdE_isB _ _ x h
theorem or8192 (x : Int) (h0 : 0 ≤ x) (h1 : x < 8192) : bits .or .i64 x 8192 = x + 8192 := by
  have hc : bits .or .i64 x 8192 = bits .or .i64 8192 x := by simp only [bits, BitVec.or_comm]
  rw [hc, bits_join .i64 63 (by decide) (fun n h0 h1 => by rw [IntKind.wrap_i64]; omega) 13 8192 x (by decide) (by decide) (by decide) h0 h1 (by omega)]
  omega
theorem fieldOne (g : Nat) (W : World) : (Instr.fieldAt 25 (.pointer (some ⟨g, 0, none⟩)) 1).run Try.prog W = .ok (.pointer (some ⟨g, 1, none⟩)) W := by go_simp
set_option maxRecDepth 100000 in
set_option maxHeartbeats 8000000 in
theorem header_any (w : World) (s d pr i o : Int) (m q : Bool) (t : Int) (a : Option Addr) (n c : Nat) (hs : IsU s) (hd : IsU d) (hn : n ≤ 65515) (hr : (0 ≤ pr ∧ pr ≤ 255) ∧ (0 ≤ t ∧ t ≤ 255) ∧ (0 ≤ i ∧ i ≤ 65535) ∧ (0 ≤ o ∧ o ≤ 65528)) :
    Calls Try.prog 29 #[.agg (pkC s d pr i o m q t (.slice a n c))] w fun e w' => ∃ a2 c2, e = .returned (.slice a2 20 c2) ∧ GO w' w.heap.size (.slice a2 20 c2) (hdL n s d pr i o m t) ∧ Below w.heap.size w w' := by
  obtain ⟨W1, hW1, h1, b1⟩ := boxP w (pkC s d pr i o m q t (.slice a n c)) 25
  obtain ⟨g, hg⟩ : ∃ g, w.heap.size = g := ⟨_, rfl⟩
  rw [hg] at h1
  unfold IsU at hs hd
  have c3' := cell_of h1 (i := 3) (v := .int .i64 i) rfl
  have c4 := cell_of h1 (i := 4) (v := .int .i64 o) rfl
  have c5 := cell_of h1 (i := 5) (v := .bool m) rfl
  have c8 := cell_of h1 (i := 8) (v := .slice a n c) rfl
  obtain ⟨F, hF⟩ : ∃ F, F = flW o m := ⟨_, rfl⟩
  have hF0 : 0 ≤ F ∧ F < 65536 := by rw [hF]; unfold flW; split <;> omega
  obtain ⟨A, hA⟩ : ∃ A, A = hdA n pr i o m t := ⟨_, rfl⟩
  obtain ⟨E, hE⟩ : ∃ E, E = hdE s d := ⟨_, rfl⟩
  obtain ⟨S, hS⟩ : ∃ S, S = inetL (A ++ E) := ⟨_, rfl⟩
  have hSb : 0 ≤ S ∧ S ≤ 65535 := by rw [hS, hA, hE]; exact inetL_bd _ (hdAE_isB _ _ _ _ _ _ _ _)
  have HAL := hid (show A.length = 10 by rw [hA]; exact hdA_len _ _ _ _ _ _)
  have HEL := hid (show E.length = 8 by rw [hE]; exact hdE_len _ _)
  have HHA := hid (show outBe (outBe [] 2 [17664, 20 + (n : Int), i, F]) 1 [t, pr] = A by rw [hA, hF]; rfl)
  have HHE := hid (show outBe [] 4 [s, d] = E by rw [hE]; rfl)
  have HHD := hid (show outBe A 2 [S] ++ E = hdL n s d pr i o m t by rw [hS, hA, hE]; rfl)
  have HSS := hid hS
  have HSB := hid hSb
  have HRG := hid (And.intro hs (And.intro hd (And.intro hn (And.intro hr hF0))))
  have hdv : o.tdiv 8 = o / 8 := Int.tdiv_eq_ediv_of_nonneg (by omega)
  have hw1 : IntKind.i64.wrap (o / 8) = o / 8 := IntWalk.i64_in _ (by omega)
  have hw2 : IntKind.u64.wrap (20 + (n : Int)) = 20 + (n : Int) := IntWalk.u64_in _ (by omega)
  have hw3 : IntKind.u64.wrap i = i := IntWalk.u64_in _ (by omega)
  have hw4 : IntKind.u64.wrap F = F := IntWalk.u64_in _ (by omega)
  have hw5 : IntKind.u64.wrap t = t := IntWalk.u64_in _ (by omega)
  have hw6 : IntKind.u64.wrap pr = pr := IntWalk.u64_in _ (by omega)
  have hw7 : IntKind.u64.wrap s = s := IntWalk.u64_in _ (by omega)
  have hw8 : IntKind.u64.wrap d = d := IntWalk.u64_in _ (by omega)
  have H1 := hid h1
  have HB1 := hid b1
  have HG0 := hid hg
  have HW := hW1.symm
  have hor := or8192 (o / 8) (by omega) (by omega)
  clear h1 b1 hW1 hA hE hS hSb hF0
  cases m with
  | true =>
    have hF2 : o / 8 + 8192 = F := by rw [hF]; rfl
    rw [hF2] at hor
    clear hF hs hd hr hF2
    go_enter Try.func29, Try.ntmps29
    go_upto_region 4 with fail
    obtain ⟨W2, hW2, b2⟩ := newW W1 (.cells #[.int .u64 17664, .int .u64 (20 + (n : Int)), .int .u64 i, .int .u64 F] 65)
    have HP := hid (putBeW W2 none (some ⟨W1.heap.size, 0, none⟩) 0 0 2 4 4 [] [17664, 20 + (n : Int), i, F] rfl rfl (by omega) (by omega) (.inr (.inl rfl)) (fun v hv => by have := HRG.out; simp at hv; rcases hv with rfl | rfl | rfl | rfl <;> omega) (Bytes.nil_ _ _) (by rw [hW2]; exact words_new W1 _ [17664, 20 + (n : Int), i, F] (fun v hv => by have := HRG.out; simp at hv; rcases hv with rfl | rfl | rfl | rfl <;> omega)))
    have HB2 := hid (HB1.out.trans (b2.mono HB1.out.size))
    have HBX2 := hid ((b2.block g (Array.getElem?_eq_some_iff.1 H1.out).1).trans H1.out)
    have HW2 := hW2.symm
    clear b2 hW2
    go_upto_region 5 with (go_at_call 35; refine HP.out.mono ?_; rintro e w3 ⟨a3, c3, rfl, hg3, hb3⟩; have HG3 := hid hg3; have HB3 := hid (HB2.out.trans (hb3.mono HB2.out.size)); have h3 := (hb3.block g (Array.getElem?_eq_some_iff.1 HBX2.out).1).trans HBX2.out; have H3 := hid h3; clear hg3 hb3 h3 HP)
    clear HW2 c8 c3' c4 c5
    have c37 := cell_of H3.out (i := 7) (v := .int .i64 t) rfl
    have c32 := cell_of H3.out (i := 2) (v := .int .i64 pr) rfl
    obtain ⟨x3, y3, e3, hc3, hy3⟩ := HG3.out.by_ (S := New W2) (fun _ h => h)
    rw [outBe_len] at e3
    simp only [Value.slice.injEq] at e3
    obtain ⟨rfl, -, rfl⟩ := e3
    obtain ⟨W4, hW4, b4⟩ := newW w3 (.cells #[.int .u64 t, .int .u64 pr] 65)
    have HP := hid (putBeW W4 a3 (some ⟨w3.heap.size, 0, none⟩) 8 c3 1 2 2 (outBe [] 2 [17664, 20 + (n : Int), i, F]) [t, pr] (by rw [outBe_len]; rfl) rfl (by omega) (by omega) (.inl rfl) (fun v hv => by have := HRG.out; simp at hv; rcases hv with rfl | rfl <;> omega) (hy3.bytes.later b4) (by rw [hW4]; exact words_new w3 _ [t, pr] (fun v hv => by have := HRG.out; simp at hv; rcases hv with rfl | rfl <;> omega)))
    have HB4 := hid (HB3.out.trans (b4.mono HB3.out.size))
    have HBX4 := hid ((b4.block g (Array.getElem?_eq_some_iff.1 H3.out).1).trans H3.out)
    have HW4 := hW4.symm
    clear b4 hW4 hc3 hy3 HG3
    go_upto_region 6 with (go_at_call 35; refine HP.out.mono ?_; rintro e w5 ⟨a5, c5, rfl, hg5, hb5⟩; rw [HHA.out] at hg5; have HG5 := hid hg5; have HB5 := hid (HB4.out.trans (hb5.mono HB4.out.size)); have h5 := (hb5.block g (Array.getElem?_eq_some_iff.1 HBX4.out).1).trans HBX4.out; have H5 := hid h5; clear hg5 hb5 h5 HP)
    clear HW4 c37 c32
    have hfa1 := fun W : World => fieldOne g W
    have c50 := cell_of H5.out (i := 0) (v := .int .u32 s) rfl
    have c51 := cell_of H5.out (i := 1) (v := .int .u32 d) rfl
    obtain ⟨W6, hW6, b6⟩ := newW w5 (.cells #[.int .u64 s, .int .u64 d] 65)
    have HP := hid (putBeW W6 none (some ⟨w5.heap.size, 0, none⟩) 0 0 4 2 2 [] [s, d] rfl rfl (by omega) (by omega) (.inr (.inr rfl)) (fun v hv => by have := HRG.out; simp at hv; rcases hv with rfl | rfl <;> omega) (Bytes.nil_ _ _) (by rw [hW6]; exact words_new w5 _ [s, d] (fun v hv => by have := HRG.out; simp at hv; rcases hv with rfl | rfl <;> omega)))
    have HB6 := hid (HB5.out.trans (b6.mono HB5.out.size))
    have HB56 := hid b6
    have HW6 := hW6.symm
    clear b6 hW6
    go_upto_region 7 with (go_at_call 35; refine HP.out.mono ?_; rintro e w7 ⟨a7, c7, rfl, hg7, hb7⟩; rw [HHE.out] at hg7; have HG7 := hid hg7; have HB67 := hid hb7; have HB7 := hid (HB6.out.trans (hb7.mono HB6.out.size)); clear hg7 hb7 HP)
    clear HW6 c50 c51 hfa1
    obtain ⟨x5, y5, e5, hc5, hy5⟩ := HG5.out.by_ (S := New W4) (fun _ h => h)
    rw [HAL.out] at e5
    simp only [Value.slice.injEq] at e5
    obtain ⟨rfl, -, rfl⟩ := e5
    obtain ⟨x7, y7, e7, hc7, hy7⟩ := HG7.out.by_ (S := New W6) (fun _ h => h)
    rw [HEL.out] at e7
    simp only [Value.slice.injEq] at e7
    obtain ⟨rfl, -, rfl⟩ := e7
    have hy57 := (hy5.later HB56.out).later HB67.out
    obtain ⟨W8, hW8, b8⟩ := newW w7 (.cells #[.slice a5 10 c5, .slice a7 8 c7] 22)
    have HI := Inet_two w7 a5 a7 10 8 c5 c7 A E HAL.out HEL.out (by omega) hy57.bytes hy7.bytes
    rw [← hW8, ← HSS.out] at HI
    have HI := hid HI
    obtain ⟨W9, hW9, b9⟩ := newW W8 (.cells #[.int .u64 S] 65)
    have HB8 := hid (HB7.out.trans (b8.mono HB7.out.size))
    have HB9 := hid (HB8.out.trans (b9.mono HB8.out.size))
    have HP := hid (putBeW W9 a5 (some ⟨W8.heap.size, 0, none⟩) 10 c5 2 1 1 A [S] HAL.out rfl (by omega) (by omega) (.inr (.inl rfl)) (fun v hv => by have := HSB.out; simp at hv; subst hv; omega) ((hy57.later b8).later b9).bytes (by rw [hW9]; exact words_new W8 _ [S] (fun v hv => by have := HSB.out; simp at hv; subst hv; omega)))
    have HY7 := hid ((hy7.later b8).later b9)
    have HW8 := hW8.symm
    have HW9 := hW9.symm
    clear b8 b9 hW8 hW9 hy57 hy5 hy7 hc5 hc7 HG5 HG7
    have hwS : IntKind.u64.wrap S = S := IntWalk.u64_in _ (by have := HSB.out; omega)
    go_upto_region 8 with (first | (go_at_call 34; refine HI.out.mono ?_; rintro e w9 ⟨rfl, rfl⟩; clear HI) | (go_at_call 35; refine HP.out.mono ?_; rintro e w10 ⟨a10, c10, rfl, hg10, hb10⟩; have HG10 := hid hg10; have HY10 := hid (HY7.out.later hb10); have HB910 := hid hb10.size; have HB10 := hid (HB9.out.trans (hb10.mono HB9.out.size)); clear hg10 hb10 HP))
    clear HW8 HW9 hwS
    obtain ⟨a11, c11, w11, hap, hg11, hb11⟩ := HG10.out.push (by rw [outBe_len, HAL.out]; rfl) HB910.out E a7 8 c7 HEL.out HY10.out.bytes (by omega) 22
    have HB11 := hid (HB10.out.trans (hb11.mono HB9.out.size))
    have HG11 := hid hg11
    clear hg11 hb11 HG10
    go_wp2_with (at_builtin; refine wpList_append_run rfl _ _ 22 rfl rfl rfl hap ?_)
    go_ret
    refine ⟨a11, c11, rfl, ?_, ?_⟩
    · have h1 := HG11.out
      have h2 := HB9.out.size
      rw [← HHD.out]
      exact ⟨h1.1, owns_base h1.2 (fun g hg => by have := (owns_lt h1.2 hg).2; have := HG0.out; omega)⟩
    · have h2 := HB11.out
      first | exact h2 | (rw [HG0.out] at h2; exact h2)
  | false =>
    have hF2 : o / 8 = F := by rw [hF]; simp [flW]
    rw [hF2] at hdv hw1
    clear hF hs hd hr hF2 hor
    go_enter Try.func29, Try.ntmps29
    go_upto_region 4 with fail
    obtain ⟨W2, hW2, b2⟩ := newW W1 (.cells #[.int .u64 17664, .int .u64 (20 + (n : Int)), .int .u64 i, .int .u64 F] 65)
    have HP := hid (putBeW W2 none (some ⟨W1.heap.size, 0, none⟩) 0 0 2 4 4 [] [17664, 20 + (n : Int), i, F] rfl rfl (by omega) (by omega) (.inr (.inl rfl)) (fun v hv => by have := HRG.out; simp at hv; rcases hv with rfl | rfl | rfl | rfl <;> omega) (Bytes.nil_ _ _) (by rw [hW2]; exact words_new W1 _ [17664, 20 + (n : Int), i, F] (fun v hv => by have := HRG.out; simp at hv; rcases hv with rfl | rfl | rfl | rfl <;> omega)))
    have HB2 := hid (HB1.out.trans (b2.mono HB1.out.size))
    have HBX2 := hid ((b2.block g (Array.getElem?_eq_some_iff.1 H1.out).1).trans H1.out)
    have HW2 := hW2.symm
    clear b2 hW2
    go_upto_region 5 with (go_at_call 35; refine HP.out.mono ?_; rintro e w3 ⟨a3, c3, rfl, hg3, hb3⟩; have HG3 := hid hg3; have HB3 := hid (HB2.out.trans (hb3.mono HB2.out.size)); have h3 := (hb3.block g (Array.getElem?_eq_some_iff.1 HBX2.out).1).trans HBX2.out; have H3 := hid h3; clear hg3 hb3 h3 HP)
    clear HW2 c8 c3' c4 c5
    have c37 := cell_of H3.out (i := 7) (v := .int .i64 t) rfl
    have c32 := cell_of H3.out (i := 2) (v := .int .i64 pr) rfl
    obtain ⟨x3, y3, e3, hc3, hy3⟩ := HG3.out.by_ (S := New W2) (fun _ h => h)
    rw [outBe_len] at e3
    simp only [Value.slice.injEq] at e3
    obtain ⟨rfl, -, rfl⟩ := e3
    obtain ⟨W4, hW4, b4⟩ := newW w3 (.cells #[.int .u64 t, .int .u64 pr] 65)
    have HP := hid (putBeW W4 a3 (some ⟨w3.heap.size, 0, none⟩) 8 c3 1 2 2 (outBe [] 2 [17664, 20 + (n : Int), i, F]) [t, pr] (by rw [outBe_len]; rfl) rfl (by omega) (by omega) (.inl rfl) (fun v hv => by have := HRG.out; simp at hv; rcases hv with rfl | rfl <;> omega) (hy3.bytes.later b4) (by rw [hW4]; exact words_new w3 _ [t, pr] (fun v hv => by have := HRG.out; simp at hv; rcases hv with rfl | rfl <;> omega)))
    have HB4 := hid (HB3.out.trans (b4.mono HB3.out.size))
    have HBX4 := hid ((b4.block g (Array.getElem?_eq_some_iff.1 H3.out).1).trans H3.out)
    have HW4 := hW4.symm
    clear b4 hW4 hc3 hy3 HG3
    go_upto_region 6 with (go_at_call 35; refine HP.out.mono ?_; rintro e w5 ⟨a5, c5, rfl, hg5, hb5⟩; rw [HHA.out] at hg5; have HG5 := hid hg5; have HB5 := hid (HB4.out.trans (hb5.mono HB4.out.size)); have h5 := (hb5.block g (Array.getElem?_eq_some_iff.1 HBX4.out).1).trans HBX4.out; have H5 := hid h5; clear hg5 hb5 h5 HP)
    clear HW4 c37 c32
    have hfa1 := fun W : World => fieldOne g W
    have c50 := cell_of H5.out (i := 0) (v := .int .u32 s) rfl
    have c51 := cell_of H5.out (i := 1) (v := .int .u32 d) rfl
    obtain ⟨W6, hW6, b6⟩ := newW w5 (.cells #[.int .u64 s, .int .u64 d] 65)
    have HP := hid (putBeW W6 none (some ⟨w5.heap.size, 0, none⟩) 0 0 4 2 2 [] [s, d] rfl rfl (by omega) (by omega) (.inr (.inr rfl)) (fun v hv => by have := HRG.out; simp at hv; rcases hv with rfl | rfl <;> omega) (Bytes.nil_ _ _) (by rw [hW6]; exact words_new w5 _ [s, d] (fun v hv => by have := HRG.out; simp at hv; rcases hv with rfl | rfl <;> omega)))
    have HB6 := hid (HB5.out.trans (b6.mono HB5.out.size))
    have HB56 := hid b6
    have HW6 := hW6.symm
    clear b6 hW6
    go_upto_region 7 with (go_at_call 35; refine HP.out.mono ?_; rintro e w7 ⟨a7, c7, rfl, hg7, hb7⟩; rw [HHE.out] at hg7; have HG7 := hid hg7; have HB67 := hid hb7; have HB7 := hid (HB6.out.trans (hb7.mono HB6.out.size)); clear hg7 hb7 HP)
    clear HW6 c50 c51 hfa1
    obtain ⟨x5, y5, e5, hc5, hy5⟩ := HG5.out.by_ (S := New W4) (fun _ h => h)
    rw [HAL.out] at e5
    simp only [Value.slice.injEq] at e5
    obtain ⟨rfl, -, rfl⟩ := e5
    obtain ⟨x7, y7, e7, hc7, hy7⟩ := HG7.out.by_ (S := New W6) (fun _ h => h)
    rw [HEL.out] at e7
    simp only [Value.slice.injEq] at e7
    obtain ⟨rfl, -, rfl⟩ := e7
    have hy57 := (hy5.later HB56.out).later HB67.out
    obtain ⟨W8, hW8, b8⟩ := newW w7 (.cells #[.slice a5 10 c5, .slice a7 8 c7] 22)
    have HI := Inet_two w7 a5 a7 10 8 c5 c7 A E HAL.out HEL.out (by omega) hy57.bytes hy7.bytes
    rw [← hW8, ← HSS.out] at HI
    have HI := hid HI
    obtain ⟨W9, hW9, b9⟩ := newW W8 (.cells #[.int .u64 S] 65)
    have HB8 := hid (HB7.out.trans (b8.mono HB7.out.size))
    have HB9 := hid (HB8.out.trans (b9.mono HB8.out.size))
    have HP := hid (putBeW W9 a5 (some ⟨W8.heap.size, 0, none⟩) 10 c5 2 1 1 A [S] HAL.out rfl (by omega) (by omega) (.inr (.inl rfl)) (fun v hv => by have := HSB.out; simp at hv; subst hv; omega) ((hy57.later b8).later b9).bytes (by rw [hW9]; exact words_new W8 _ [S] (fun v hv => by have := HSB.out; simp at hv; subst hv; omega)))
    have HY7 := hid ((hy7.later b8).later b9)
    have HW8 := hW8.symm
    have HW9 := hW9.symm
    clear b8 b9 hW8 hW9 hy57 hy5 hy7 hc5 hc7 HG5 HG7
    have hwS : IntKind.u64.wrap S = S := IntWalk.u64_in _ (by have := HSB.out; omega)
    go_upto_region 8 with (first | (go_at_call 34; refine HI.out.mono ?_; rintro e w9 ⟨rfl, rfl⟩; clear HI) | (go_at_call 35; refine HP.out.mono ?_; rintro e w10 ⟨a10, c10, rfl, hg10, hb10⟩; have HG10 := hid hg10; have HY10 := hid (HY7.out.later hb10); have HB910 := hid hb10.size; have HB10 := hid (HB9.out.trans (hb10.mono HB9.out.size)); clear hg10 hb10 HP))
    clear HW8 HW9 hwS
    obtain ⟨a11, c11, w11, hap, hg11, hb11⟩ := HG10.out.push (by rw [outBe_len, HAL.out]; rfl) HB910.out E a7 8 c7 HEL.out HY10.out.bytes (by omega) 22
    have HB11 := hid (HB10.out.trans (hb11.mono HB9.out.size))
    have HG11 := hid hg11
    clear hg11 hb11 HG10
    go_wp2_with (at_builtin; refine wpList_append_run rfl _ _ 22 rfl rfl rfl hap ?_)
    go_ret
    refine ⟨a11, c11, rfl, ?_, ?_⟩
    · have h1 := HG11.out
      have h2 := HB9.out.size
      rw [← HHD.out]
      exact ⟨h1.1, owns_base h1.2 (fun g hg => by have := (owns_lt h1.2 hg).2; have := HG0.out; omega)⟩
    · have h2 := HB11.out
      first | exact h2 | (rw [HG0.out] at h2; exact h2)
end Go.Proofs.Ytgdajplloamjcaa
