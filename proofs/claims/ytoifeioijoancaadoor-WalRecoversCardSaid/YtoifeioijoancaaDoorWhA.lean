/- The document's Recover. -/
import Derived.Test.YtoifeioijoancaaDoorWfB
namespace Go.Proofs.YtoifeioijoancaaDoor
open Go.RowKit Go.Maps
set_option linter.unusedVariables false

theorem leOf_inj : ∀ (X Y : List Int), X.length = Y.length → (∀ x ∈ X, IsB x) → (∀ y ∈ Y, IsB y) → leOf X = leOf Y → X = Y
  | [], [], _, _, _, _ => rfl
  | [], _ :: _, h, _, _, _ => by simp at h
  | _ :: _, [], h, _, _, _ => by simp at h
  | x :: X, y :: Y, h, hX, hY, he => by
    have hx := hX x (by simp)
    have hy := hY y (by simp)
    unfold IsB at hx hy
    simp only [leOf] at he
    have e1 : x = y := by omega
    have e2 : leOf X = leOf Y := by omega
    rw [e1, leOf_inj X Y (by simpa using h) (fun z hz => hX z (by simp [hz])) (fun z hz => hY z (by simp [hz])) e2]
theorem rdN_take (l : List Int) (m p n : Nat) (h : p + n ≤ m) : rdN (l.take m) p n = rdN l p n := by
  unfold rdN
  rw [List.drop_take, List.take_take, Nat.min_eq_left (by omega)]
theorem take20 (t : List Int) : t.take 20 = t.take 8 ++ (t.drop 8).take 8 ++ (t.drop 16).take 4 := by
  rw [show 20 = 16 + 4 from rfl, List.take_add, show 16 = 8 + 8 from rfl, List.take_add]
theorem rdN_end (s x : Int) : rdN (endB s x) 8 8 = s % 256 ^ 8 ∧ rdN (endB s x) 16 4 = x % 256 ^ 4 := by
  constructor
  · unfold endB; rw [List.append_assoc]; exact rdN_at endW _ 8 8 s rfl
  · have := rdN_at (endW ++ bytesLe 8 s) [] 4 16 x (by simp [endW, len_le])
    rw [List.append_nil] at this
    unfold endB
    exact this
theorem foot_iff (t : List Int) (hl : t.length = 512) (hI : ∀ x ∈ t, IsB x) (s x : Int) (h0 : 0 ≤ s) (h1 : s < 18446744073709551616) (h2 : 0 ≤ x) (h3 : x < 4294967296) : t.take 20 = endB s x ↔ t.take 8 = endW ∧ rdN t 8 8 = s ∧ rdN t 16 4 = x := by
  constructor
  · intro h
    have e1 := congrArg (List.take 8) h
    rw [List.take_take, show min 8 20 = 8 from rfl, endB_word] at e1
    have e2 := rdN_take t 20 8 8 (by omega)
    have e3 := rdN_take t 20 16 4 (by omega)
    rw [h, (rdN_end s x).1, Int.emod_eq_of_lt h0 (by omega)] at e2
    rw [h, (rdN_end s x).2, Int.emod_eq_of_lt h2 (by omega)] at e3
    exact ⟨e1, e2.symm, e3.symm⟩
  · rintro ⟨e1, e2, e3⟩
    rw [take20, e1]
    unfold endB
    have k1 : (t.drop 8).take 8 = bytesLe 8 s := leOf_inj _ _ (by rw [len_le, List.length_take, List.length_drop, hl]; rfl) (fun z hz => hI z (List.mem_of_mem_drop (List.mem_of_mem_take hz))) (bytesLe_isB _ _) (by rw [leOf_bytes, Int.emod_eq_of_lt h0 (by omega)]; exact e2)
    have k2 : (t.drop 16).take 4 = bytesLe 4 x := leOf_inj _ _ (by rw [len_le, List.length_take, List.length_drop, hl]; rfl) (fun z hz => hI z (List.mem_of_mem_drop (List.mem_of_mem_take hz))) (bytesLe_isB _ _) (by rw [leOf_bytes, Int.emod_eq_of_lt h2 (by omega)]; exact e3)
    rw [k1, k2]
theorem refLe_at (w : World) (a : Option Addr) (n cap p k : Nat) (x y : Int) (l : List Int) (hx : x = p) (hy : y = k) (hl : l.length = n) (hn : n ≤ 1000000) (hk : k = 4 ∨ k = 8) (hp : p + k ≤ n) (h : Bytes w a l) :
    Calls Tryd.prog 51 #[.slice a n cap, .int .i64 x, .int .i64 y] w fun e w' => e = .returned (.tuple #[.int .u64 (rdN l p k), .int .i64 0]) ∧ w' = w := by
  subst hx hy hl
  have hw : widB ((k : Nat) : Int) = true := by rcases hk with rfl | rfl <;> rfl
  have := refLe_any a cap l p k w (by unfold maxLen; omega) h
  obtain ⟨e1, e2, _⟩ := rd_yes l p k hw (by simp [insB]; omega)
  rw [e1, e2] at this
  simp only [cutOf, Int.toNat_natCast] at this
  exact this
theorem getD_of_map {M : List Pw} {i : Nat} {l : List Int} (h : M.map Pw.pt = recOut l i) (j : Nat) (hj : j < i) : (M.getD j default).blk = rdN (l.take 512) (20 + 4 * j) 4 := by
  have hl : M.length = i := by have := congrArg List.length h; rw [List.length_map, recOut_len] at this; exact this
  have h1 : (M.map Pw.pt).getD j default = (M.getD j default).pt := map_getD M j (by omega)
  rw [h] at h1
  have h2 : (recOut l i).getD j default = recAt l j := by simp [recOut, List.getD, hj]
  rw [h2] at h1
  exact (congrArg Pt.blk h1).symm
theorem nodup_hit {d : List Int} {i j n : Nat} (hj : j < i) (hi : i < n) (h : rdN d (20 + 4 * j) 4 = rdN d (20 + 4 * i) 4) : ¬ (placesL d n).Nodup := fun hn => by
  rw [List.nodup_iff_pairwise_ne, List.pairwise_iff_getElem] at hn
  exact hn j i (by rw [placesL_len]; omega) (by rw [placesL_len]; omega) hj (by simpa [placesL] using h)
theorem notin_snoc {d : List Int} {j : Nat} {x : Int} (h : x ∉ placesL d j) (hx : rdN d (20 + 4 * j) 4 ≠ x) : x ∉ placesL d (j + 1) := by
  rw [placesL_snoc]
  simp only [List.mem_append, List.mem_singleton, not_or]
  exact ⟨h, fun e => hx e.symm⟩
theorem nodup_snoc {d : List Int} {i : Nat} (h : (placesL d i).Nodup) (hx : rdN d (20 + 4 * i) 4 ∉ placesL d i) : (placesL d (i + 1)).Nodup := by
  rw [placesL_snoc, List.nodup_append]
  refine ⟨h, by simp, fun a ha b hb => ?_⟩
  simp only [List.mem_singleton] at hb
  intro e
  rw [hb] at e
  exact hx (by rw [← e]; exact ha)
theorem strW {X Y : List Int} {B : List UInt8} (hX : ∀ x ∈ X, IsB x) (hY : ∀ x ∈ Y, IsB x) (e : (strOfNums Y).toList = B) : (strOfNums X).toList = B ↔ X = Y := by
  have := str_eq hX hY
  rw [e] at this
  constructor
  · intro h
    rw [h] at this
    simpa using this.symm
  · intro h
    rw [h]; exact e
theorem headW_str : (strOfNums headW).toList = [71, 82, 78, 72, 69, 65, 68, 49] := by rw [Lib.strOfNums_toList]; rfl
theorem endW_str : (strOfNums endW).toList = [71, 82, 78, 84, 65, 73, 76, 49] := by rw [Lib.strOfNums_toList]; rfl
set_option maxRecDepth 100000 in
set_option maxHeartbeats 1000000 in
theorem refRecover_size (w : World) (a : Option Addr) (n cap : Nat) (hn : n ≠ 33792) :
    Calls Tryd.prog 16 #[.slice a n cap] w fun e w' => e = .returned (.tuple #[.int .u64 0, .slice none 0 0, .int .i64 14]) ∧ w' = w := by
  have h1 : ((n : Int) != 33792) = true := by simp; omega
  go_enter Tryd.func16, Tryd.ntmps16
  go_wp2
  exact bodyPost_ret (results_tmp3 rfl _ _ _) rfl ⟨rfl, rfl⟩
set_option maxRecDepth 100000 in
set_option maxHeartbeats 1000000 in
theorem refRecover_any (w : World) (S : Nat → Prop) (a : Option Addr) (cap : Nat) (l : List Int) (hl : l.length = 33792) (hc : 33792 ≤ cap) (h : By w S a l) :
    Calls Tryd.prog 16 #[.slice a 33792 cap] w fun e w' => ((RecOk l ∧ ∃ v M, e = .returned (.tuple #[.int .u64 (recSeq l), v, .int .i64 0]) ∧ PO w' (New w) v M ∧ M.map Pw.pt = recOut l (recN l)) ∨ (¬ RecOk l ∧ e = .returned (.tuple #[.int .u64 0, .slice none 0 0, .int .i64 2]))) ∧ Below w.heap.size w w' := by
  obtain ⟨g, off, rfl, _, _⟩ := h.addr (by omega)
  have hI := h.isB
  have HH := hid h
  have HI := hid hI
  have HL := hid hl
  obtain ⟨d, hd⟩ : ∃ d, d = l.take 512 := ⟨_, rfl⟩
  have HDD := hid hd
  have hdl : d.length = 512 := by rw [hd, List.length_take, hl]; rfl
  have hdI : ∀ x ∈ d, IsB x := fun x hx => hI x (by rw [hd] at hx; exact List.mem_of_mem_take hx)
  have HDL := hid hdl
  have hy : By w S (some ⟨g, off, none⟩) d := by rw [hd]; exact h.take 512
  have HY := hid hy
  have hcut1 := cutH_run (some ⟨g, off, none⟩) 33792 cap 512 (by omega) w
  have HC1 := hid (refLe_at w (some ⟨g, off, none⟩) 512 cap 8 8 8 8 d rfl rfl hdl (by omega) (.inr rfl) (by omega) hy.bytes)
  have HC2 := hid (refLe_at w (some ⟨g, off, none⟩) 512 cap 16 4 16 4 d rfl rfl hdl (by omega) (.inl rfl) (by omega) hy.bytes)
  have HC3 := hid (refLe_at w (some ⟨g, off, none⟩) 512 cap 508 4 508 4 d rfl rfl hdl (by omega) (.inl rfl) (by omega) hy.bytes)
  have b1 := rdN_bd d 8 8 hdI (by omega)
  have b2 := rdN_bd d 16 4 hdI (by omega)
  have b3 := rdN_bd d 508 4 hdI (by omega)
  obtain ⟨sq, hsq⟩ : ∃ sq, sq = rdN d 8 8 := ⟨_, rfl⟩
  obtain ⟨n0, hn0⟩ : ∃ n0, n0 = rdN d 16 4 := ⟨_, rfl⟩
  obtain ⟨sm, hsm⟩ : ∃ sm, sm = rdN d 508 4 := ⟨_, rfl⟩
  rw [← hsq] at b1 HC1
  rw [← hn0] at b2 HC2
  rw [← hsm] at b3 HC3
  have HSQ := hid hsq
  have HN0 := hid hn0
  have HSM := hid hsm
  have hsq0 := b1.1
  have hsq1 : sq < 18446744073709551616 := by have := b1.2; omega
  have hn00 := b2.1
  have hn01 : n0 < 4294967296 := by have := b2.2; omega
  have hsm0 := b3.1
  have hsm1 : sm < 4294967296 := by have := b3.2; omega
  obtain ⟨s8, hs8⟩ : ∃ s8, s8 = strOfNums (d.take 8) := ⟨_, rfl⟩
  have hcv8 := conv0 (cap := cap) (hy.take 8).bytes (show (d.take 8).length = 8 by rw [List.length_take, hdl]; rfl)
  rw [← hs8] at hcv8
  have hW8 := strW (X := d.take 8) (fun x hx => hdI x (List.mem_of_mem_take hx)) headW_isB headW_str
  rw [← hs8] at hW8
  have hcut508 := cutH_run (some ⟨g, off, none⟩) 512 cap 508 (by omega) w
  have hcut8 := cutH_run (some ⟨g, off, none⟩) 512 cap 8 (by omega) w
  have hl508 : (d.take 508).length = 508 := by rw [List.length_take, hdl]; rfl
  have hcrc := refCrc_any (some ⟨g, off, none⟩) cap (d.take 508) w (by rw [hl508]; omega) (hy.take 508).bytes
  rw [hl508] at hcrc
  have EC : 4294967295 - crcOn 4294967295 (d.take 508) = crcL (d.take 508) := rfl
  rw [EC] at hcrc
  have hcb := crcL_bd (d.take 508) (fun x hx => hdI x (List.mem_of_mem_take hx))
  obtain ⟨C, hC⟩ : ∃ C, C = crcL (d.take 508) := ⟨_, rfl⟩
  rw [← hC] at hcrc hcb
  have HCC := hid hC
  have HCR := hid hcrc
  have hC0 := hcb.1
  have hC1 := hcb.2
  have HKN : Hid (∀ P : Prop, (RecOk l → P) → ¬ P → ¬ RecOk l) := hid (fun P h1 h2 h3 => h2 (h1 h3))
  clear h hI hl hd hdl hdI hy b1 b2 b3 hsq hn0 hsm hs8 hl508 hcrc EC hcb hC
  rcases (Classical.em (s8.toList = [71, 82, 78, 72, 69, 65, 68, 49])).symm with hpre | hpre
  · have HNO : Hid (¬ RecOk l) := hid (fun hk => hpre (hW8.2 (by have := hk.head.word; rw [← HDD.out] at this; exact this)))
    clear hW8
    go_enter Tryd.func16, Tryd.ntmps16
    go_wp2_with (go_at_call 51; first | (refine HC1.out.mono ?_; rintro e w1 ⟨rfl, hw1⟩; rw [hw1]; clear hw1 HC1) | (refine HC2.out.mono ?_; rintro e w1 ⟨rfl, hw1⟩; rw [hw1]; clear hw1 HC2) | (refine HC3.out.mono ?_; rintro e w1 ⟨rfl, hw1⟩; rw [hw1]; clear hw1 HC3))
    exact bodyPost_ret (results_tmp3 rfl _ _ _) rfl ⟨.inr ⟨HNO.out, rfl⟩, Below.refl _ _⟩
  have HPRE : Hid (d.take 8 = headW) := hid (hW8.1 hpre)
  clear hW8
  rcases (Classical.em (sm = C)).symm with hsum | hsum
  · have hneq : (sm != C) = true := by simpa using hsum
    have HNO : Hid (¬ RecOk l) := hid (fun hk => hsum (by have := hk.head.sum; rw [← HDD.out, ← HSM.out, ← HCC.out] at this; exact this))
    clear hsum
    go_enter Tryd.func16, Tryd.ntmps16
    go_wp2_with (first | (go_at_call 51; first | (refine HC1.out.mono ?_; rintro e w1 ⟨rfl, hw1⟩; rw [hw1]; clear hw1 HC1) | (refine HC2.out.mono ?_; rintro e w1 ⟨rfl, hw1⟩; rw [hw1]; clear hw1 HC2) | (refine HC3.out.mono ?_; rintro e w1 ⟨rfl, hw1⟩; rw [hw1]; clear hw1 HC3)) | (go_at_call 47; refine HCR.out.mono ?_; rintro e w1 ⟨rfl, hw1⟩; rw [hw1]; clear hw1))
    exact bodyPost_ret (results_tmp3 rfl _ _ _) rfl ⟨.inr ⟨HNO.out, rfl⟩, Below.refl _ _⟩
  have HSUM := hid hsum
  have hneq : (sm != C) = false := by simp [hsum]
  clear hsum
  by_cases hlow : n0 < 1
  · have HNO : Hid (¬ RecOk l) := hid (fun hk => by have := hk.head.few; rw [← HDD.out, ← HN0.out] at this; omega)
    go_enter Tryd.func16, Tryd.ntmps16
    go_wp2_with (first | (go_at_call 51; first | (refine HC1.out.mono ?_; rintro e w1 ⟨rfl, hw1⟩; rw [hw1]; clear hw1 HC1) | (refine HC2.out.mono ?_; rintro e w1 ⟨rfl, hw1⟩; rw [hw1]; clear hw1 HC2) | (refine HC3.out.mono ?_; rintro e w1 ⟨rfl, hw1⟩; rw [hw1]; clear hw1 HC3)) | (go_at_call 47; refine HCR.out.mono ?_; rintro e w1 ⟨rfl, hw1⟩; rw [hw1]; clear hw1))
    exact bodyPost_ret (results_tmp3 rfl _ _ _) rfl ⟨.inr ⟨HNO.out, rfl⟩, Below.refl _ _⟩
  by_cases hhi : 64 < n0
  · have HNO : Hid (¬ RecOk l) := hid (fun hk => by have := hk.head.many; rw [← HDD.out, ← HN0.out] at this; omega)
    go_enter Tryd.func16, Tryd.ntmps16
    go_wp2_with (first | (go_at_call 51; first | (refine HC1.out.mono ?_; rintro e w1 ⟨rfl, hw1⟩; rw [hw1]; clear hw1 HC1) | (refine HC2.out.mono ?_; rintro e w1 ⟨rfl, hw1⟩; rw [hw1]; clear hw1 HC2) | (refine HC3.out.mono ?_; rintro e w1 ⟨rfl, hw1⟩; rw [hw1]; clear hw1 HC3)) | (go_at_call 47; refine HCR.out.mono ?_; rintro e w1 ⟨rfl, hw1⟩; rw [hw1]; clear hw1))
    exact bodyPost_ret (results_tmp3 rfl _ _ _) rfl ⟨.inr ⟨HNO.out, rfl⟩, Below.refl _ _⟩
  obtain ⟨n, rfl⟩ := Int.eq_ofNat_of_zero_le hn00
  have HNN : Hid (recN l = n) := hid (by unfold recN; rw [← HDD.out, ← HN0.out]; simp)
  have hn64 : n ≤ 64 := by omega
  have hn1 : 1 ≤ n := by omega
  have HHD : Hid ((placesL d n).Nodup → HeadOk d) := hid (fun h => ⟨HPRE.out, by rw [← HSM.out, ← HCC.out]; exact HSUM.out, by rw [← HN0.out]; omega, by rw [← HN0.out]; omega, by rw [← HN0.out]; simpa using h⟩)
  have HHO : Hid (RecOk l → (placesL d n).Nodup) := hid (fun hk => by have := hk.head.once; rw [← HDD.out, ← HN0.out] at this; simpa using this)
  -- the end
  have hcutT := cut_run g off 33792 cap (512 * (n + 1)) (512 * (n + 2)) (by omega) (by omega) hc w
  have e1 : ((512 * (n + 1) : Nat) : Int) = 512 * ((n : Int) + 1) := by omega
  have e2 : ((512 * (n + 2) : Nat) : Int) = 512 * ((n : Int) + 2) := by omega
  rw [e1, e2, show 512 * (n + 2) - 512 * (n + 1) = 512 by omega] at hcutT
  obtain ⟨o2, ho2⟩ : ∃ o2, o2 = off + 512 * (n + 1) := ⟨_, rfl⟩
  obtain ⟨c2, hc2⟩ : ∃ c2, c2 = cap - 512 * (n + 1) := ⟨_, rfl⟩
  obtain ⟨t, ht⟩ : ∃ t, t = (l.drop (512 * (n + 1))).take 512 := ⟨_, rfl⟩
  obtain ⟨N5, hN5⟩ : ∃ N5, N5 = 512 * (n + 1) := ⟨_, rfl⟩
  have hyT : By w S (some ⟨g, o2, none⟩) t := by rw [ht, ho2]; exact HH.out.cut _ _
  rw [← ho2, ← hc2] at hcutT
  have htl : t.length = 512 := by rw [ht, List.length_take, List.length_drop, HL.out]; omega
  have htI := hyT.isB
  have hc28 : 8 ≤ c2 := by omega
  have hcutT8 := cutH_run (some ⟨g, o2, none⟩) 512 c2 8 hc28 w
  have hcutN := cutH_run (some ⟨g, off, none⟩) 33792 cap N5 (by omega) w
  rw [show ((N5 : Nat) : Int) = 512 * ((n : Int) + 1) by omega] at hcutN
  obtain ⟨s9, hs9⟩ : ∃ s9, s9 = strOfNums (t.take 8) := ⟨_, rfl⟩
  have hcv9 := conv0 (cap := c2) (hyT.take 8).bytes (show (t.take 8).length = 8 by rw [List.length_take, htl]; rfl)
  rw [← hs9] at hcv9
  have hW9 := strW (X := t.take 8) (fun x hx => htI x (List.mem_of_mem_take hx)) endW_isB endW_str
  rw [← hs9] at hW9
  have HC4 := hid (refLe_at w (some ⟨g, o2, none⟩) 512 c2 8 8 8 8 t rfl rfl htl (by omega) (.inr rfl) (by omega) hyT.bytes)
  have HC5 := hid (refLe_at w (some ⟨g, o2, none⟩) 512 c2 16 4 16 4 t rfl rfl htl (by omega) (.inl rfl) (by omega) hyT.bytes)
  have b4 := rdN_bd t 8 8 htI (by omega)
  have b5 := rdN_bd t 16 4 htI (by omega)
  have hlN : (l.take N5).length = N5 := by rw [List.length_take, HL.out]; omega
  have hcrc := refCrc_any (some ⟨g, off, none⟩) cap (l.take N5) w (by rw [hlN]; omega) (HH.out.take N5).bytes
  rw [hlN] at hcrc
  have EC : 4294967295 - crcOn 4294967295 (l.take N5) = crcL (l.take N5) := rfl
  rw [EC] at hcrc
  have hcb := crcL_bd (l.take N5) (fun x hx => HI.out x (List.mem_of_mem_take hx))
  obtain ⟨C2, hC2⟩ : ∃ C2, C2 = crcL (l.take N5) := ⟨_, rfl⟩
  rw [← hC2] at hcrc hcb
  have hfi := foot_iff t htl htI sq C2 hsq0 hsq1 hcb.1 hcb.2
  have HFT : Hid (RecOk l ↔ HeadOk d ∧ t.take 20 = endB sq C2) := hid (by
    constructor
    · intro hk
      have h1 := hk.head
      have h2 := hk.foot
      unfold recSeq at h2
      rw [HNN.out, ← ht, ← HDD.out, ← HSQ.out, ← hN5, ← hC2] at h2
      rw [← HDD.out] at h1
      exact ⟨h1, h2⟩
    · rintro ⟨h1, h2⟩
      refine ⟨by rw [← HDD.out]; exact h1, ?_⟩
      unfold recSeq
      rw [HNN.out, ← ht, ← HDD.out, ← HSQ.out, ← hN5, ← hC2]
      exact h2)
  obtain ⟨sq2, hsq2⟩ : ∃ sq2, sq2 = rdN t 8 8 := ⟨_, rfl⟩
  obtain ⟨sm2, hsm2⟩ : ∃ sm2, sm2 = rdN t 16 4 := ⟨_, rfl⟩
  rw [← hsq2] at b4 HC4 hfi
  rw [← hsm2] at b5 HC5 hfi
  have hq20 := b4.1
  have hq21 : sq2 < 18446744073709551616 := by have := b4.2; omega
  have hm20 := b5.1
  have hm21 : sm2 < 4294967296 := by have := b5.2; omega
  have hC20 := hcb.1
  have hC21 := hcb.2
  have HCR2 := hid hcrc
  have q5 : IntKind.i64.wrap ((n : Int) + 1) = (n : Int) + 1 := IntWalk.i64_in _ (by omega)
  have q6 : IntKind.i64.wrap ((n : Int) + 2) = (n : Int) + 2 := IntWalk.i64_in _ (by omega)
  clear e1 e2 ho2 hc2 ht hN5 htl htI hs9 b4 b5 hlN hcrc EC hcb hC2 hyT hsq2 hsm2 hn00 hn01
  rcases (Classical.em (s9.toList = [71, 82, 78, 84, 65, 73, 76, 49])).symm with hp2 | hp2
  · have HNO : Hid (¬ RecOk l) := hid (fun hk => hp2 (hW9.2 (hfi.1 (HFT.out.1 hk).2).1))
    clear hW9 hfi
    go_enter Tryd.func16, Tryd.ntmps16
    go_wp2_with (first | (go_at_call 51; first | (refine HC1.out.mono ?_; rintro e w1 ⟨rfl, hw1⟩; rw [hw1]; clear hw1 HC1) | (refine HC2.out.mono ?_; rintro e w1 ⟨rfl, hw1⟩; rw [hw1]; clear hw1 HC2) | (refine HC3.out.mono ?_; rintro e w1 ⟨rfl, hw1⟩; rw [hw1]; clear hw1 HC3) | (refine HC4.out.mono ?_; rintro e w1 ⟨rfl, hw1⟩; rw [hw1]; clear hw1 HC4) | (refine HC5.out.mono ?_; rintro e w1 ⟨rfl, hw1⟩; rw [hw1]; clear hw1 HC5)) | (go_at_call 47; first | (refine HCR.out.mono ?_; rintro e w1 ⟨rfl, hw1⟩; rw [hw1]; clear hw1 HCR) | (refine HCR2.out.mono ?_; rintro e w1 ⟨rfl, hw1⟩; rw [hw1]; clear hw1 HCR2)))
    exact bodyPost_ret (results_tmp3 rfl _ _ _) rfl ⟨.inr ⟨HNO.out, rfl⟩, Below.refl _ _⟩
  rcases (Classical.em (sq2 = sq)).symm with hp3 | hp3
  · have hx3 : (sq2 != sq) = true := by simpa using hp3
    have HNO : Hid (¬ RecOk l) := hid (fun hk => hp3 ((hfi.1 (HFT.out.1 hk).2).2.1))
    clear hW9 hfi
    go_enter Tryd.func16, Tryd.ntmps16
    go_wp2_with (first | (go_at_call 51; first | (refine HC1.out.mono ?_; rintro e w1 ⟨rfl, hw1⟩; rw [hw1]; clear hw1 HC1) | (refine HC2.out.mono ?_; rintro e w1 ⟨rfl, hw1⟩; rw [hw1]; clear hw1 HC2) | (refine HC3.out.mono ?_; rintro e w1 ⟨rfl, hw1⟩; rw [hw1]; clear hw1 HC3) | (refine HC4.out.mono ?_; rintro e w1 ⟨rfl, hw1⟩; rw [hw1]; clear hw1 HC4) | (refine HC5.out.mono ?_; rintro e w1 ⟨rfl, hw1⟩; rw [hw1]; clear hw1 HC5)) | (go_at_call 47; first | (refine HCR.out.mono ?_; rintro e w1 ⟨rfl, hw1⟩; rw [hw1]; clear hw1 HCR) | (refine HCR2.out.mono ?_; rintro e w1 ⟨rfl, hw1⟩; rw [hw1]; clear hw1 HCR2)))
    exact bodyPost_ret (results_tmp3 rfl _ _ _) rfl ⟨.inr ⟨HNO.out, rfl⟩, Below.refl _ _⟩
  have hx3 : (sq2 != sq) = false := by simp [hp3]
  rcases (Classical.em (sm2 = C2)).symm with hp4 | hp4
  · have hx4 : (sm2 != C2) = true := by simpa using hp4
    clear hp3
    have HNO : Hid (¬ RecOk l) := hid (fun hk => hp4 ((hfi.1 (HFT.out.1 hk).2).2.2))
    clear hW9 hfi
    go_enter Tryd.func16, Tryd.ntmps16
    go_wp2_with (first | (go_at_call 51; first | (refine HC1.out.mono ?_; rintro e w1 ⟨rfl, hw1⟩; rw [hw1]; clear hw1 HC1) | (refine HC2.out.mono ?_; rintro e w1 ⟨rfl, hw1⟩; rw [hw1]; clear hw1 HC2) | (refine HC3.out.mono ?_; rintro e w1 ⟨rfl, hw1⟩; rw [hw1]; clear hw1 HC3) | (refine HC4.out.mono ?_; rintro e w1 ⟨rfl, hw1⟩; rw [hw1]; clear hw1 HC4) | (refine HC5.out.mono ?_; rintro e w1 ⟨rfl, hw1⟩; rw [hw1]; clear hw1 HC5)) | (go_at_call 47; first | (refine HCR.out.mono ?_; rintro e w1 ⟨rfl, hw1⟩; rw [hw1]; clear hw1 HCR) | (refine HCR2.out.mono ?_; rintro e w1 ⟨rfl, hw1⟩; rw [hw1]; clear hw1 HCR2)))
    exact bodyPost_ret (results_tmp3 rfl _ _ _) rfl ⟨.inr ⟨HNO.out, rfl⟩, Below.refl _ _⟩
  have hx4 : (sm2 != C2) = false := by simp [hp4]
  have HOK : Hid ((placesL d n).Nodup → RecOk l) := hid (fun h => HFT.out.2 ⟨HHD.out h, hfi.2 ⟨hW9.1 hp2, hp3, hp4⟩⟩)
  clear hW9 hfi hp3 hp4 HFT HHD
  go_enter Tryd.func16, Tryd.ntmps16
  go_wp2_with (first | (go_at_call 51; first | (refine HC1.out.mono ?_; rintro e w1 ⟨rfl, hw1⟩; rw [hw1]; clear hw1 HC1) | (refine HC2.out.mono ?_; rintro e w1 ⟨rfl, hw1⟩; rw [hw1]; clear hw1 HC2) | (refine HC3.out.mono ?_; rintro e w1 ⟨rfl, hw1⟩; rw [hw1]; clear hw1 HC3) | (refine HC4.out.mono ?_; rintro e w1 ⟨rfl, hw1⟩; rw [hw1]; clear hw1 HC4) | (refine HC5.out.mono ?_; rintro e w1 ⟨rfl, hw1⟩; rw [hw1]; clear hw1 HC5)) | (go_at_call 47; first | (refine HCR.out.mono ?_; rintro e w1 ⟨rfl, hw1⟩; rw [hw1]; clear hw1 HCR) | (refine HCR2.out.mono ?_; rintro e w1 ⟨rfl, hw1⟩; rw [hw1]; clear hw1 HCR2)))
  clear hcut1 hcv8 hcut508 hcut8 hcutT hcutT8 hcutN hcv9
  go_loopw [18, 19, 20, 21, 22] (fun v z _ _ _ wr => ∃ (i : Nat) (M : List Pw), i ≤ n ∧ z = .int .i64 i ∧ PO wr (New w) v M ∧ M.map Pw.pt = recOut l i ∧ M.length = i ∧ (placesL d i).Nodup ∧ Below w.heap.size w wr) (fun _ z _ _ _ _ => n - (RowKit.intOf z).toNat)
  case atStart => exact ⟨0, [], Nat.zero_le _, rfl, PO.nil _ _, rfl, rfl, by simp [placesL], Below.refl _ _⟩
  case round =>
    obtain ⟨i, M, hi, rfl, hpo, hM, hMl, hnd, hb⟩ := hrel
    rename World => V
    have HPO := hid hpo
    have HM := hid hM
    have HML := hid hMl
    have HND := hid hnd
    have HB := hid hb
    obtain ⟨a9, c9, e9, _, hps⟩ := hpo.ps
    rw [hMl] at e9
    subst e9
    have HPS := hid hps
    clear hpo hM hMl hnd hps
    by_cases hlt : i < n
    · have hki : (i : Int) < n := by omega
      have HC6 := refLe_at V (some ⟨g, off, none⟩) 512 cap (20 + 4 * i) 4 (20 + 4 * (i : Int)) 4 d (by omega) rfl HDL.out (by omega) (.inl rfl) (by omega) (HY.out.later hb).bytes
      have hbp := rdN_bd d (20 + 4 * i) 4 HY.out.isB (by omega)
      obtain ⟨x, hx⟩ : ∃ x, x = rdN d (20 + 4 * i) 4 := ⟨_, rfl⟩
      rw [← hx] at hbp HC6
      replace HC6 := hid HC6
      have hx0 := hbp.1
      have hx1 : x < 4294967296 := by have := hbp.2; omega
      have HX := hid hx
      have qx : IntKind.i64.wrap x = x := IntWalk.i64_in _ (by omega)
      clear hb hbp hx
      go_wp2_with fail
      refine HC6.out.mono ?_
      rintro e w6 ⟨rfl, hw6⟩
      rw [hw6]
      clear hw6 HC6
      go_wp2
      go_loopw [22] (fun z wq => ∃ j : Nat, j ≤ i ∧ z = .int .i64 j ∧ x ∉ placesL d j ∧ wq = V) (fun z _ => i - (RowKit.intOf z).toNat)
      case atStart => exact ⟨0, Nat.zero_le _, rfl, by simp [placesL], rfl⟩
      case round =>
        obtain ⟨j, hj, rfl, hnm, hwq⟩ := hrel
        rw [hwq]
        clear hwq
        have HNM := hid hnm
        clear hnm
        by_cases hji : j < i
        · have hjii : (j : Int) < i := by omega
          obtain ⟨bq, oq, ha', _, hd0, _⟩ := HPS.out.at_ (show j < M.length by rw [HML.out]; exact hji)
          subst ha'
          rw [getD_of_map HM.out j hji, ← HDD.out] at hd0
          obtain ⟨y, hy⟩ : ∃ y, y = rdN d (20 + 4 * j) 4 := ⟨_, rfl⟩
          rw [← hy] at hd0
          have HYY := hid hy
          clear hy
          by_cases hxy : y = x
          · have g2 : (y == x) = true := by simp [hxy]
            have HNO : Hid (¬ RecOk l) := hid (fun hk => nodup_hit hji hlt (by rw [← HYY.out, ← HX.out]; exact hxy) (HHO.out hk))
            clear hxy
            go_wp2
            exact bodyPost_ret (results_tmp3 rfl _ _ _) rfl ⟨.inr ⟨HNO.out, rfl⟩, HB.out⟩
          · have g2 : (y == x) = false := by simpa using hxy
            have HNM2 := hid (notin_snoc HNM.out (by rw [← HYY.out]; exact hxy))
            clear hxy
            go_wp2
            go_roundw
            case rel => exact ⟨j + 1, by omega, by go_num, HNM2.out, by first | rfl | trivial⟩
            case measure => simp [RowKit.intOf]; omega
        · have hjii : ¬ ((j : Int) < i) := by omega
          obtain rfl : j = i := by omega
          have HND2 : Hid ((placesL d (j + 1)).Nodup) := hid (nodup_snoc HND.out (by rw [← HX.out]; exact HNM.out))
          have e1 : ((512 * (j + 1) : Nat) : Int) = 512 * ((j : Int) + 1) := by omega
          have e2 : ((512 * (j + 2) : Nat) : Int) = 512 * ((j : Int) + 2) := by omega
          obtain ⟨o3, ho3⟩ : ∃ o3, o3 = off + 512 * (j + 1) := ⟨_, rfl⟩
          obtain ⟨c3, hc3⟩ : ∃ c3, c3 = cap - 512 * (j + 1) := ⟨_, rfl⟩
          have hcutI : ∀ W, (Instr.slice 27 (.slice (some ⟨g, off, none⟩) 33792 cap) (some (.int .i64 (512 * ((j : Int) + 1)))) (some (.int .i64 (512 * ((j : Int) + 2)))) none).run Tryd.prog W = .ok (.slice (some ⟨g, o3, none⟩) 512 c3) W := fun W => by
            have h := cut_run g off 33792 cap (512 * (j + 1)) (512 * (j + 2)) (by omega) (by omega) hc W
            rw [e1, e2, show 512 * (j + 2) - 512 * (j + 1) = 512 by omega, ← ho3, ← hc3] at h
            exact h
          have hyI : By w S (some ⟨g, o3, none⟩) (recAt l j).dat := by rw [ho3]; exact HH.out.cut _ _
          have hPl : (recAt l j).dat.length = 512 := by show ((l.drop (512 * (j + 1))).take 512).length = 512; rw [List.length_take, List.length_drop, HL.out]; omega
          have hPb : (recAt l j).blk = x := by rw [HX.out, HDD.out]; rfl
          have HRS := hid (recOut_snoc l j)
          generalize recAt l j = P at *
          obtain ⟨W5, hW5⟩ : ∃ W5, W5 = V.alloc (.cells #[] 5) := ⟨_, rfl⟩
          obtain ⟨a6, c6, w6, hap6, hy6, hc6, hb6, ho6⟩ := twinB V S (some ⟨g, o3, none⟩) 512 c3 P.dat hPl (by omega) (by omega) (hyI.later HB.out) 27
          rw [← hW5] at hap6
          obtain ⟨W7, hW7⟩ : ∃ W7, W7 = w6.alloc (.cells #[.int .i64 x, .slice a6 512 c6] 29) := ⟨_, rfl⟩
          have hb7 : Below w6.heap.size w6 W7 := by rw [hW7]; exact (Below.refl _ _).alloc (Nat.le_refl _) _
          have hh7 : W7.heap[w6.heap.size]? = some (.cells #[.int .i64 x, .slice a6 512 c6] 29 (0, 0)) := by rw [hW7]; exact alloc_new w6 _
          have hb07 : Below V.heap.size V W7 := hb6.trans (hb7.mono hb6.size)
          have hbw7 : Below w.heap.size w W7 := HB.out.trans (hb07.mono HB.out.size)
          have hy7 : By W7 (New w) a6 P.dat := (hy6.later hb7).weak (fun b hb _ => Nat.le_trans HB.out.size hb)
          obtain ⟨a8, n8, c8, w8, hap8, hn8, hpo8, hm8, _⟩ := PO.push (HPO.out.later hb07) ⟨x, a6, c6, P.dat⟩ hy7 (by simp only; rw [hPl]; exact hc6) w6.heap.size 0 (cell_of hh7 rfl) (by simp only; rw [hPl]; exact cell_of hh7 rfl) 1 (by rw [HML.out]; omega) 25
          have HN8 := hid hn8
          have HB8 : Hid (Below w.heap.size w w8) := hid (hm8.to_below hbw7 hbw7.size (fun b hb => HPO.out.2.1 b hb))
          have HPO8 : Hid (PO w8 (New w) (.slice a8 n8 c8) (M ++ [⟨x, a6, c6, P.dat⟩])) := hid (hpo8.weak (fun b hb _ => by rcases hb with h1 | h1; exact h1; unfold New; have := hbw7.size; omega))
          have HMM : Hid ((M ++ [(⟨x, a6, c6, P.dat⟩ : Pw)]).map Pw.pt = recOut l (j + 1)) := hid (by rw [List.map_append, HM.out, HRS.out, ← hPb]; rfl)
          have q7 : IntKind.i64.wrap ((j : Int) + 1) = (j : Int) + 1 := IntWalk.i64_in _ (by omega)
          have q8 : IntKind.i64.wrap ((j : Int) + 2) = (j : Int) + 2 := IntWalk.i64_in _ (by omega)
          clear e1 e2 ho3 hc3 hyI hPl hPb hy6 hc6 hb6 ho6 hb7 hh7 hb07 hbw7 hy7 hpo8 hm8 hn8
          go_wp2_with (first | (rw [← hW5]; clear hW5) | (at_builtin; refine wpList_append_run rfl _ _ 27 rfl rfl rfl hap6 ?_; clear hap6) | (rw [← hW7]; clear hW7) | (at_builtin; refine wpList_append_run rfl _ _ 25 rfl rfl rfl hap8 ?_; clear hap8))
          go_roundw
          case rel => exact ⟨j + 1, _, by omega, by go_num, HPO8.out, HMM.out, by simp [HML.out], HND2.out, HB8.out⟩
          case measure => simp [RowKit.intOf]; omega
    · have hki : ¬ ((i : Int) < n) := by omega
      obtain rfl : i = n := by omega
      clear hb
      go_wp2
      exact bodyPost_ret (results_tmp3 rfl _ _ _) rfl ⟨.inl ⟨HOK.out HND.out, _, by have e : recSeq l = sq := (by unfold recSeq; rw [← HDD.out, ← HSQ.out]); rw [e]; rfl, M, HPO.out, by rw [HNN.out]; exact HM.out⟩, HB.out⟩
end Go.Proofs.YtoifeioijoancaaDoor
