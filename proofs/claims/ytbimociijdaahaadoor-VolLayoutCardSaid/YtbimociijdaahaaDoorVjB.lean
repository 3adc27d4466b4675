/- VolLayout: the parts of a volume lie one behind the other, each as large as it must be; in a new one just what is before its files, and the root's block, is taken. Condition: num's table holds its sixteen words. -/
import Derived.Test.YtbimociijdaahaaDoorVjA
import Derived.Test.YtbimociijdaahaaDoorVhA
namespace Go.Proofs.YtbimociijdaahaaDoor
open Go.RowKit Go.Maps
set_option linter.unusedVariables false

theorem enc_form (b i : Int) : encL b i = supW ++ (bytesLe 4 b ++ (bytesLe 4 i ++ (List.replicate 492 0 ++ bytesLe 4 (crcL (encP b i))))) := by
  unfold encL
  have e : encP b i = supW ++ (bytesLe 4 b ++ (bytesLe 4 i ++ List.replicate 492 0)) := by
    unfold encP pad
    rw [supB_len]
    unfold supB
    simp only [List.append_assoc]
  conv => lhs; arg 1; rw [e]
  simp only [List.append_assoc]
theorem dec_enc {b i : Int} (hp : PlanOk b i) : decE (encL b i) = 0 ∧ decA (encL b i) = supC b i := by
  have hb0 := hp.b0; have hb1 := hp.b1; have hi0 := hp.i0; have hi1 := hp.i1
  have h8 : (encL b i).take 8 = supW := by rw [enc_form]; exact List.take_left' rfl
  have hB : le4 (encL b i) 8 = b := by
    unfold le4
    rw [enc_form, List.drop_left' (show supW.length = 8 from rfl), List.take_left' (len_le 4 b), leOf_bytes]
    omega
  have hI : le4 (encL b i) 12 = i := by
    unfold le4
    rw [enc_form, ← List.append_assoc, List.drop_left' (show (supW ++ bytesLe 4 b).length = 12 by rw [List.length_append, len_le]; rfl), List.take_left' (len_le 4 i), leOf_bytes]
    omega
  have hq := crcL_bd (encP b i) (encP_isB b i)
  have h508 : (encL b i).take 508 = encP b i := by unfold encL; exact List.take_left' (encP_len b i)
  have hS : le4 (encL b i) 508 = crcL (encP b i) := by
    unfold le4
    unfold encL
    rw [List.drop_left' (encP_len b i), List.take_of_length_le (by rw [len_le]; exact Nat.le_refl _), leOf_bytes]
    omega
  obtain ⟨h1, h2⟩ := dec_0 (encL_len b i) h8 (by rw [hB, hI]; exact hp.e) (by rw [hS, h508])
  rw [hB, hI] at h2
  exact ⟨h1, h2⟩
theorem cnt_gen {F : Nat → Bool} {lo a N : Nat} (h1 : lo ≤ a) (ht : ∀ k, lo ≤ k → k < a → F k = true) (hf : ∀ k, a ≤ k → k < N → F k = false) : ∀ k, k ≤ N → cnt F lo k = k - a
  | 0, _ => by simp [cnt]
  | k + 1, hk => by
    rw [cnt, cnt_gen h1 ht hf k (by omega)]
    by_cases h2 : a ≤ k
    · rw [if_pos ⟨by omega, hf k h2 (by omega)⟩]; omega
    · by_cases h3 : lo ≤ k
      · rw [if_neg (by rw [ht k h3 (by omega)]; simp)]; omega
      · rw [if_neg (by omega)]; omega
set_option maxRecDepth 100000 in
set_option maxHeartbeats 4000000 in
theorem VolLayout_walk (w : World) (bl ino : Int) (hT : Tab w) :
    Calls Tryd.prog 4 #[n64 bl, n64 ino] w fun e w' => e = .returned (.bool true) ∧ Below w.heap.size w w' := by
  have HK := hid (known_any w)
  have hb1 := wi_bd bl 9000 (by decide)
  have hb2 := wi_bd ino 1000 (by decide)
  have HW1 := hid (within_any bl 9000 (by decide) (by decide))
  have HW2 := hid (within_any ino 1000 (by decide) (by decide))
  obtain ⟨x, hx⟩ : ∃ x : Nat, wi bl 9000 = (x : Int) := ⟨(wi bl 9000).toNat, by omega⟩
  obtain ⟨y, hy⟩ : ∃ y : Nat, wi ino 1000 = (y : Int) := ⟨(wi ino 1000).toNat, by omega⟩
  rw [hx] at HW1 hb1
  rw [hy] at HW2 hb2
  obtain ⟨N, hN⟩ : ∃ N : Nat, N = 128 + x := ⟨_, rfl⟩
  obtain ⟨I, hI⟩ : ∃ I : Nat, I = 8 + 4 * y := ⟨_, rfl⟩
  have hw1 : IntKind.i64.wrap (128 + (x : Int)) = (N : Int) := by rw [IntWalk.i64_in _ (by omega)]; omega
  have hw2 : IntKind.i64.wrap (4 * (y : Int)) = 4 * (y : Int) := IntWalk.i64_in _ (by omega)
  have hw3 : IntKind.i64.wrap (8 + 4 * (y : Int)) = (I : Int) := by rw [IntWalk.i64_in _ (by omega)]; omega
  obtain ⟨R, hR⟩ : ∃ R : Nat, R = (N + 4095) / 4096 := ⟨_, rfl⟩
  obtain ⟨J, hJ⟩ : ∃ J : Nat, J = I / 4 := ⟨_, rfl⟩
  have hTt : planT (N : Int) = 69 + (R : Int) := by unfold planT; omega
  have hDd : planD (N : Int) (I : Int) = 69 + (R : Int) + (J : Int) := by unfold planD; rw [hTt]; omega
  have hNb : 128 ≤ N ∧ N ≤ 9200 := by omega
  have hIb : 8 ≤ I ∧ I ≤ 4008 ∧ I = 4 * J := by omega
  have hRb : R * 4096 < N + 4096 ∧ N ≤ R * 4096 ∧ R ≤ 16 := by omega
  have HC := Plan_any (N : Int) (I : Int)
  have hE : planE (N : Int) (I : Int) = (if (N : Int) < 69 + (R : Int) + (J : Int) + 8 then 14 else 0) := by
    unfold planE
    rw [if_neg (by omega), hDd]
  have q1 : IntKind.i64.wrap ((N : Int) + 4095) = (N : Int) + 4095 := IntWalk.i64_in _ (by omega)
  have q2 : ((N : Int) + 4095) / 4096 = (R : Int) := by omega
  have q3 : IntKind.i64.wrap (69 + (R : Int)) = 69 + (R : Int) := IntWalk.i64_in _ (by omega)
  have q4 : (I : Int) / 4 = (J : Int) := by omega
  have q5 : IntKind.i64.wrap (69 + (R : Int) + (J : Int)) = 69 + (R : Int) + (J : Int) := IntWalk.i64_in _ (by omega)
  have q6 : IntKind.i64.wrap (69 + (R : Int) + (J : Int) + 8) = 69 + (R : Int) + (J : Int) + 8 := IntWalk.i64_in _ (by omega)
  have r1 : IntKind.i64.wrap (69 + (R : Int) - 69) = (R : Int) := by rw [IntWalk.i64_in _ (by omega)]; omega
  have r2 : IntKind.i64.wrap ((R : Int) * 4096) = (R : Int) * 4096 := IntWalk.i64_in _ (by omega)
  have r3 : ¬ ((R : Int) * 4096 < N) := by omega
  have r4 : IntKind.i64.wrap ((R : Int) - 1) = (R : Int) - 1 := IntWalk.i64_in _ (by omega)
  have r5 : IntKind.i64.wrap (((R : Int) - 1) * 4096) = ((R : Int) - 1) * 4096 := IntWalk.i64_in _ (by omega)
  have r6 : ¬ ((N : Int) ≤ ((R : Int) - 1) * 4096) := by omega
  have r7 : IntKind.i64.wrap (69 + (R : Int) + (J : Int) - (69 + (R : Int))) = (J : Int) := by rw [IntWalk.i64_in _ (by omega)]; omega
  have r8 : IntKind.i64.wrap ((J : Int) * 4) = (I : Int) := by rw [IntWalk.i64_in _ (by omega)]; omega
  have HTb := hid hT
  have HNb := hid hNb
  have HIb := hid hIb
  have HRb := hid hRb
  clear hb1 hb2 hx hy hN hI hR hJ hT hNb hIb hRb
  go_enter Tryd.func4, Tryd.ntmps4
  go_wp2_with fail
  refine HK.out.mono ?_
  rintro e w1 ⟨rfl, hb1⟩
  have HB1 := hid hb1
  clear hb1 HK
  go_wp2_with fail
  refine (HW1.out w1).mono ?_
  rintro e w2 ⟨rfl, rfl⟩
  go_wp2_with fail
  refine (HW2.out w2).mono ?_
  rintro e w3 ⟨rfl, rfl⟩
  clear HW1 HW2
  by_cases hlt : (N : Int) < 69 + (R : Int) + (J : Int) + 8
  · rw [if_pos hlt] at hE
    have HC1 := HC w3
    rw [supA_no (by rw [hE]; decide), hE] at HC1
    unfold sup0 at HC1
    replace HC1 := hid HC1
    clear HC hE
    go_wp2_with fail
    refine HC1.out.mono ?_
    rintro e w4 ⟨rfl, hb4⟩
    have HB4 : Hid (Below w.heap.size w w4) := hid (HB1.out.trans (hb4.mono HB1.out.size))
    have HLT := hid hlt
    have HA : Hid (((N : Int) + 4095).tdiv 4096 = (R : Int) ∧ wrap64 (R : Int) = R ∧ wrap64 (69 + (R : Int)) = 69 + (R : Int) ∧ wrap64 (J : Int) = J ∧ wrap64 (69 + (R : Int) + (J : Int)) = 69 + (R : Int) + (J : Int) ∧ wrap64 (69 + (R : Int) + (J : Int) + 8) = 69 + (R : Int) + (J : Int) + 8) := hid (by
      have h1 := HRb.out
      have h2 := HIb.out
      exact ⟨by rw [Int.tdiv_eq_ediv_of_nonneg (by omega)]; exact q2, IntWalk.wrap64_in _ (by omega), IntWalk.wrap64_in _ (by omega), IntWalk.wrap64_in _ (by omega), IntWalk.wrap64_in _ (by omega), IntWalk.wrap64_in _ (by omega)⟩)
    clear hb4 HC1
    go_wp2
    go_ret
    exact ⟨by simp; rw [HA.out.1, HA.out.2.1, HA.out.2.2.1, HA.out.2.2.2.1, HA.out.2.2.2.2.1, HA.out.2.2.2.2.2]; exact HLT.out, HB4.out.alloc HB4.out.size _⟩
  · rw [if_neg hlt] at hE
    have HPO := hid (PlanOk.of hE)
    have HC1 := HC w3
    rw [supA_ok hE, hE] at HC1
    unfold supC at HC1
    rw [hTt, hDd] at HC1
    replace HC1 := hid HC1
    have HDd := hid hDd
    have HTt := hid hTt
    clear HC hE hTt hDd
    go_wp2_with fail
    refine HC1.out.mono ?_
    rintro e w4 ⟨rfl, hb4⟩
    have HB4 : Hid (Below w.heap.size w w4) := hid (HB1.out.trans (hb4.mono HB1.out.size))
    obtain ⟨W5, hW5⟩ : ∃ W, W = w4.alloc (.cells #[n64 N, n64 I, n64 1, n64 2, n64 68, n64 69, n64 (69 + (R : Int)), n64 (69 + (R : Int) + (J : Int))] 30) := ⟨_, rfl⟩
    have hh5 : W5.heap[w4.heap.size]? = some (.cells #[n64 N, n64 I, n64 1, n64 2, n64 68, n64 69, n64 (69 + (R : Int)), n64 (69 + (R : Int) + (J : Int))] 30 (0, 0)) := by rw [hW5]; exact alloc_new w4 _
    have hb5 : Below w4.heap.size w4 W5 := by rw [hW5]; exact (Below.refl _ _).alloc (Nat.le_refl _) _
    have HB5 : Hid (Below w.heap.size w W5) := hid (HB4.out.trans (hb5.mono HB4.out.size))
    obtain ⟨d0, d1, d2, d3, d4, d5, d6, d7⟩ := cells8 hh5
    have HH5 := hid hh5
    clear hb4 hb5 hh5 HC1
    by_cases hbig : 2000 < N
    · have hbig' : (2000 : Int) < N := by omega
      go_wp2_with (rw [← hW5]; clear hW5)
      go_ret
      exact ⟨rfl, HB5.out⟩
    · have hbig' : ¬ (2000 : Int) < N := by omega
      have HF := hid (Fresh_ok W5 N I HPO.out)
      clear hbig
      go_wp2_with (rw [← hW5]; clear hW5)
      refine HF.out.mono ?_
      rintro e w6 ⟨pv, S, rfl, hL, hS, hb6⟩
      have hDn : planD (N : Int) (I : Int) = ((69 + R + J : Nat) : Int) := by rw [HDd.out]; omega
      have hlt2 : 69 + R + J + 8 ≤ N := by omega
      have hcB : ((cnt (fun (k : Nat) => decide ((k : Int) ≤ planD N I) || decide ((N : Int) ≤ (k : Int))) (69 + R + J) N : Nat) : Int) = (N : Int) - (69 + (R : Int) + (J : Int)) - 1 := by
        rw [cnt_gen (a := 69 + R + J + 1) (N := N) (by omega) (fun k h1 h2 => by simp only [hDn, Bool.or_eq_true, decide_eq_true_eq]; omega) (fun k h1 h2 => by simp only [hDn, Bool.or_eq_false_iff, decide_eq_false_iff_not]; omega) N (Nat.le_refl _)]
        omega
      have hcI : ((cnt (imB (I : Int)) 2 I : Nat) : Int) = (I : Int) - 2 := by
        have := HIb.out
        rw [cnt_gen (a := 2) (N := I) (by omega) (fun k h1 h2 => by omega) (fun k h1 h2 => by unfold imB; simp only [Bool.or_eq_false_iff, decide_eq_false_iff_not]; omega) I (Nat.le_refl _)]
        omega
      have HFB := FreeBlocks_lv hL (69 + R + J) hDn
      rw [hcB] at HFB
      have HFI := fun W (hb : Below w6.heap.size w6 W) => FreeInodes_lv (hL.later hb) I rfl
      rw [hcI] at HFI
      have s1 : IntKind.i64.wrap ((N : Int) - (69 + (R : Int) + (J : Int))) = (N : Int) - (69 + (R : Int) + (J : Int)) := IntWalk.i64_in _ (by have := HNb.out; omega)
      have s2 : IntKind.i64.wrap ((N : Int) - (69 + (R : Int) + (J : Int)) - 1) = (N : Int) - (69 + (R : Int) + (J : Int)) - 1 := IntWalk.i64_in _ (by have := HNb.out; omega)
      have s3 : IntKind.i64.wrap ((I : Int) - 2) = (I : Int) - 2 := IntWalk.i64_in _ (by have := HIb.out; omega)
      have HB6 := hid hb6
      have HSB : Hid (∀ W, Below W5.heap.size W5 W → W.heap[w4.heap.size]? = some (.cells #[n64 N, n64 I, n64 1, n64 2, n64 68, n64 69, n64 (69 + (R : Int)), n64 (69 + (R : Int) + (J : Int))] 30 (0, 0)) ∧ Below w.heap.size w W) := hid (fun W hb => ⟨(hb.block _ (Array.getElem?_eq_some_iff.1 HH5.out).1).trans HH5.out, HB5.out.trans (hb.mono HB5.out.size)⟩)
      have HFBh := hid HFB
      have HFIh := hid HFI
      have HEN := fun W (hT : Tab W) => Encode_any W N I HPO.out hT
      unfold supC at HEN
      rw [HTt.out, HDd.out] at HEN
      have HENh := hid HEN
      clear hL hS hb6 hcB hcI HFB HFI HEN HF hDn hlt2 d0 d1 d2 d3 d4 d5 d6 d7 q1 q2 q3 q5 q6 r1 r2 r3 r4 r5 r6 r7 r8 hw1 hw2 hw3 hlt
      go_wp2_with fail
      refine HFBh.out.mono ?_
      rintro e w7 ⟨rfl, hb7⟩
      have HF2 := hid (HFIh.out w7 hb7)
      have HB7 : Hid (Below W5.heap.size W5 w7) := hid (HB6.out.trans (hb7.mono HB6.out.size))
      clear hb7 HFBh HFIh
      go_wp2_with fail
      refine HF2.out.mono ?_
      rintro e w8 ⟨rfl, hb8⟩
      have hb58 : Below W5.heap.size W5 w8 := HB7.out.trans (hb8.mono HB7.out.size)
      have HB8 := hid hb58
      obtain ⟨hh8, hbw8⟩ := HSB.out w8 hb58
      obtain ⟨e0, e1, e2, e3, e4, e5, e6, e7⟩ := cells8 hh8
      have HE8 := hid (HENh.out w8 (HTb.out.later hbw8))
      clear hb8 hb58 hh8 hbw8 HF2 HENh
      go_wp2_with fail
      refine HE8.out.mono ?_
      rintro e w9 ⟨g, rfl, hy9, hb9⟩
      have hb59 : Below W5.heap.size W5 w9 := HB8.out.trans (hb9.mono HB8.out.size)
      have HD9 := Decode_512 w9 _ ⟨g, 0, none⟩ 512 (encL N I) (encL_len _ _) (by decide) hy9 (HTb.out.later (HSB.out w9 hb59).2)
      rw [(dec_enc HPO.out).1, (dec_enc HPO.out).2] at HD9
      unfold supC at HD9
      rw [HTt.out, HDd.out] at HD9
      replace HD9 := hid HD9
      have HB9 := hid hb59
      clear hy9 hb9 hb59 HE8 e0 e1 e2 e3 e4 e5 e6 e7
      go_wp2_with fail
      refine HD9.out.mono ?_
      rintro e w10 ⟨rfl, hb10⟩
      obtain ⟨W11, hW11⟩ : ∃ W, W = w10.alloc (.cells #[n64 N, n64 I, n64 1, n64 2, n64 68, n64 69, n64 (69 + (R : Int)), n64 (69 + (R : Int) + (J : Int))] 30) := ⟨_, rfl⟩
      have hh11 : W11.heap[w10.heap.size]? = some (.cells #[n64 N, n64 I, n64 1, n64 2, n64 68, n64 69, n64 (69 + (R : Int)), n64 (69 + (R : Int) + (J : Int))] 30 (0, 0)) := by rw [hW11]; exact alloc_new w10 _
      have hb11 : Below w10.heap.size w10 W11 := by rw [hW11]; exact (Below.refl _ _).alloc (Nat.le_refl _) _
      have hb511 : Below W5.heap.size W5 W11 := HB9.out.trans ((hb10.trans (hb11.mono hb10.size)).mono HB9.out.size)
      obtain ⟨hhs, hbw⟩ := HSB.out W11 hb511
      obtain ⟨e0, e1, e2, e3, e4, e5, e6, e7⟩ := cells8 hhs
      obtain ⟨f0, f1, f2, f3, f4, f5, f6, f7⟩ := cells8 hh11
      have HBW := hid hbw
      clear hb10 hh11 hb11 hb511 hhs hbw HD9
      go_wp2_with (first | (rw [← hW11]; clear hW11))
      go_ret
      exact ⟨by first | rfl | simp, HBW.out⟩
end Go.Proofs.YtbimociijdaahaaDoor
