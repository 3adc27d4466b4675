/- Package ip's Echo. -/
import Derived.Test.YtgdajplloamjcaaPbE
namespace Go.Proofs.Ytgdajplloamjcaa
open Go.RowKit Go.Maps
set_option linter.unusedVariables false
def ecE (l : List Int) : Int := if l.length < 8 then 11 else if inetL l ≠ 0 then 13 else if beOf ((l.drop 0).take 2) ≠ 2048 then 3 else 0
def ecR (l : List Int) : List Int := bytesBe 2 0 ++ bytesBe 2 (inetL (bytesBe 2 0 ++ l.drop 4)) ++ l.drop 4
def ecL (l : List Int) : List Int := if ecE l = 0 then ecR l else []
theorem ecR_len (l : List Int) (h : 8 ≤ l.length) : (ecR l).length = l.length := by simp [ecR, len_be]; omega
theorem newW (w : World) (o : Obj) : ∃ W, W = w.alloc o ∧ Below w.heap.size w W := ⟨_, rfl, below_alloc (Below.refl _ _) (Nat.le_refl _) _⟩
set_option maxRecDepth 100000 in
set_option maxHeartbeats 4000000 in
theorem Echo_any (w : World) (a : Option Addr) (n c : Nat) (l : List Int) (hn : l.length = n) (hl : n ≤ 70000) (hc : n ≤ c) (hb : Bytes w a l) :
    Calls Try.prog 18 #[.slice a n c] w fun e w' => ∃ a2 c2, e = .returned (.tuple #[.slice a2 (ecL l).length c2, .int .i64 (ecE l)]) ∧ By w' (New w) a2 (ecL l) ∧ (ecL l).length ≤ c2 ∧ Below w.heap.size w w' := by
  have hdef : ecL l = if ecE l = 0 then ecR l else [] := rfl
  by_cases h8 : n < 8
  · have e0 : ecE l = 11 := by unfold ecE; rw [if_pos (by omega)]
    rw [hdef, e0, if_neg (by omega)]
    have h8i : (n : Int) < 8 := by omega
    clear hdef hb hn e0
    go_enter Try.func18, Try.ntmps18
    go_wp2
    go_ret2
    exact ⟨none, 0, rfl, By.nil _ _ _, Nat.le_refl _, Below.refl _ _⟩
  · have h8i : ¬ ((n : Int) < 8) := by omega
    obtain ⟨W1, hW1, b1⟩ := newW w (.cells #[.slice a n c] 22)
    have HI1 := Inet_one w a n c l hn (by omega) hb
    rw [← hW1] at HI1
    have hid1 := inetL_bd l hb.isB
    by_cases hs : inetL l = 0
    · rw [hs] at HI1
      have HN1 := number_in W1 a n c l 0 2 hn hc (by omega) (.inr (.inl rfl)) (by omega) (hb.later b1) 0 2 rfl rfl
      by_cases hk : beOf ((l.drop 0).take 2) = 2048
      · have e0 : ecE l = 0 := by unfold ecE; rw [if_neg (by omega), if_neg (by simpa using hs), if_neg (by simpa using hk)]
        rw [hdef, e0, if_pos rfl, ecR_len l (by omega), hn]
        rw [hk] at HN1
        obtain ⟨a4, hcut, hcb⟩ := cut_l a n c 4 (by omega) hc
        have hcut' : ∀ W : World, (Instr.slice 22 (.slice a n c) (some (.int .i64 4)) none none).run Try.prog W = .ok (.slice a4 (n - 4) (c - 4)) W := hcut
        have hib := inetL_bd (bytesBe 2 0 ++ l.drop 4) (fun x hx => by rcases List.mem_append.1 hx with h | h; exact be_isB _ _ x h; exact hb.isB x (List.mem_of_mem_drop h))
        obtain ⟨S, hS⟩ : ∃ S, S = inetL (bytesBe 2 0 ++ l.drop 4) := ⟨_, rfl⟩
        have hre : ecR l = outBe (outBe [] 2 [0]) 2 [S] ++ l.drop 4 := by rw [hS, outBe_uno, outBe_uno]; rfl
        have hk0 : outBe [] 2 [0] = bytesBe 2 0 := by rw [outBe_uno]; rfl
        rw [← hS] at hib
        have hwS : IntKind.u64.wrap S = S := IntWalk.u64_in _ (by omega)
        have HRE := hid hre
        have HK0 := hid hk0
        have HS := hid hS
        have HIB := hid hib
        have HN := hid hn
        have HBY := hid hb
        have HCB := hid hcb
        have HI := hid HI1
        have HNU := hid HN1
        have HB1 := hid b1
        have HW1 := hW1.symm
        clear hdef e0 hn hb hcb HI1 HN1 b1 hs hk hid1 hre hk0 hS hcut hW1
        go_enter Try.func18, Try.ntmps18
        go_upto_region 8 with (first
          | (go_at_call 34; refine HI.out.mono ?_; rintro e w2 ⟨rfl, rfl⟩; clear HI)
          | (go_at_call 22; refine HNU.out.mono ?_; rintro e w2 ⟨rfl, hb2⟩; have HB2 := hid (HB1.out.trans (hb2.mono HB1.out.size)); clear hb2; obtain ⟨W3, hW3, b3⟩ := newW w2 (.cells #[.int .u64 0] 65); have HB3 := hid (HB2.out.trans (b3.mono HB2.out.size)); have HP3 := hid (putBeW W3 none (some ⟨w2.heap.size, 0, none⟩) 0 0 2 1 1 [] [0] rfl rfl (by omega) (by omega) (.inr (.inl rfl)) (by simp) (Bytes.nil_ _ _) (by rw [hW3]; exact words_new w2 _ [0] (by simp))); have HW3 := hW3.symm; clear b3 hW3 HNU))
        go_upto_region 9 with (go_at_call 35; refine HP3.out.mono ?_; rintro e w4 ⟨a5, c5, rfl, hg4, hb4⟩; rw [HK0.out] at hg4; have HB4 := hid (HB3.out.trans (hb4.mono HB3.out.size)); clear hb4; obtain ⟨x5, y5, e5, hc5, hy5⟩ := hg4.by_ (S := New W3) (fun _ h => h); simp only [Value.slice.injEq, len_be] at e5; obtain ⟨rfl, _, rfl⟩ := e5; obtain ⟨W5, hW5, b5⟩ := newW w4 (.cells #[.slice a5 2 c5, .slice a4 (n - 4) (c - 4)] 22); have HB5 := hid (HB4.out.trans (b5.mono HB4.out.size)); have HI5 := Inet_two w4 a5 a4 2 (n - 4) c5 (c - 4) (bytesBe 2 0) (l.drop 4) (len_be _ _) (by have := HN.out; simp; omega) (by omega) hy5.bytes (HCB.out w4 l HN.out (HBY.out.later HB4.out)); rw [← hW5, ← HS.out] at HI5; have HI5 := hid HI5; obtain ⟨W6, hW6, b6⟩ := newW W5 (.cells #[.int .u64 S] 65); have HB6 := hid (HB5.out.trans (b6.mono HB5.out.size)); have HP6 := hid (putBeW W6 a5 (some ⟨W5.heap.size, 0, none⟩) 2 c5 2 1 1 (outBe [] 2 [0]) [S] (by rw [HK0.out, len_be]) rfl (by omega) (by omega) (.inr (.inl rfl)) (fun v hv => by have := HIB.out; simp at hv; subst hv; omega) (by rw [HK0.out]; exact (hy5.bytes.later b5).later b6) (by rw [hW6]; exact words_new W5 _ [S] (fun v hv => by have := HIB.out; simp at hv; subst hv; omega))); have HW5 := hW5.symm; have HW6 := hW6.symm; clear b5 b6 hW5 hW6 hg4 hy5 hc5 HP3)
        go_wp2_with (first
          | (go_at_call 34; refine HI5.out.mono ?_; rintro e w2 ⟨rfl, rfl⟩; clear HI5)
          | (go_at_call 35; refine HP6.out.mono ?_; rintro e w7 ⟨a7, c7, rfl, hg7, hb7⟩; have HB7 := hid (HB6.out.trans (hb7.mono HB6.out.size)); have hsz := HB6.out.size; obtain ⟨a8, c8, w8, hap, hg8, hb8⟩ := hg7.push (by rw [outBe_len, HK0.out, len_be]; rfl) hb7.size (l.drop 4) a4 (n - 4) (c - 4) (by have := HN.out; simp; omega) (HCB.out w7 l HN.out (HBY.out.later HB7.out)) (by omega) 22; rw [← HRE.out] at hg8; have HG8 := hid hg8; have HB8 := hid (HB7.out.trans (hb8.mono hsz)); clear hg7 hb7 hg8 hb8 hsz)
          | (at_builtin; refine wpList_append_run rfl _ _ 22 rfl rfl rfl hap ?_))
        go_ret2
        obtain ⟨x9, y9, e9, hc9, hy9⟩ := HG8.out.by_ (S := New w) (fun b hb => Nat.le_trans HB6.out.size hb)
        rw [ecR_len l (by have := HN.out; omega), HN.out] at e9 hc9
        simp only [Value.slice.injEq] at e9
        obtain ⟨rfl, e10, rfl⟩ := e9
        exact ⟨_, _, congrArg (fun k => Ending.returned (.tuple #[.slice a8 k c8, .int .i64 0])) e10, hy9, hc9, HB8.out⟩
      · have e0 : ecE l = 3 := by unfold ecE; rw [if_neg (by omega), if_neg (by simpa using hs), if_pos (by simpa using hk)]
        rw [hdef, e0, if_neg (by omega)]
        have hkb : (beOf ((l.drop 0).take 2) != 2048) = true := by simpa using hk
        generalize beOf ((l.drop 0).take 2) = kd at *
        have HI := hid HI1
        have HNU := hid HN1
        have HB1 := hid b1
        have HW1 := hW1.symm
        clear hdef e0 hn hb HI1 HN1 b1 hs hk hid1 hW1
        go_enter Try.func18, Try.ntmps18
        go_wp2_with (first
          | (go_at_call 34; refine HI.out.mono ?_; rintro e w2 ⟨rfl, rfl⟩; clear HI)
          | (go_at_call 22; refine HNU.out.mono ?_; rintro e w2 ⟨rfl, hb2⟩; have HB2 := hid (HB1.out.trans (hb2.mono HB1.out.size)); clear hb2 HNU))
        go_ret2
        exact ⟨none, 0, rfl, By.nil _ _ _, Nat.le_refl _, HB2.out⟩
    · have e0 : ecE l = 13 := by unfold ecE; rw [if_neg (by omega), if_pos (by simpa using hs)]
      rw [hdef, e0, if_neg (by omega)]
      have hkb : (inetL l != 0) = true := by simpa using hs
      generalize inetL l = kd at *
      have HI := hid HI1
      have HB1 := hid b1
      have HW1 := hW1.symm
      clear hdef e0 hn hb HI1 b1 hs hW1
      go_enter Try.func18, Try.ntmps18
      go_wp2_with (go_at_call 34; refine HI.out.mono ?_; rintro e w2 ⟨rfl, rfl⟩; clear HI)
      go_ret2
      exact ⟨none, 0, rfl, By.nil _ _ _, Nat.le_refl _, HB1.out⟩
end Go.Proofs.Ytgdajplloamjcaa
