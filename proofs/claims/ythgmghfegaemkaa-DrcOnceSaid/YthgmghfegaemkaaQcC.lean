/- DrcOnce. -/
import Derived.Test.YthgmghfegaemkaaQcB
namespace Go.Proofs.Ythgmghfegaemkaa
open Go.RowKit Go.Maps
set_option linter.unusedVariables false

def IntQ (w : World) (a : Option Addr) (l : List Int) : Prop := ∀ i, i < l.length → ∃ b off, a = some ⟨b, off, none⟩ ∧ w.cell? ⟨b, off + i, none⟩ = some (.int .i64 (l.getD i 0))
def intOfQ : Value → Int
  | .int _ x => x
  | _ => 0
def kM : Ky := ⟨9, 0, 77, 0, 0⟩
theorem kM_ok : kM.Ok := ky_ok 9 0 77 0 0 (by unfold InU; omega) (isI_of (by omega) (by omega)) (by unfold InU; omega) (by unfold InU; omega) (by unfold InU; omega)
def kO (x : Int) : Ky := ⟨1, 0, x % 4294967296, 0, 0⟩
theorem kO_ok (x : Int) : (kO x).Ok := ky_ok 1 0 _ 0 0 (by unfold InU; omega) (isI_of (by omega) (by omega)) (by unfold InU; omega) (by unfold InU; omega) (by unfold InU; omega)
theorem kO_ne (x : Int) : kO x ≠ kM := by simp [kO, kM]
/-- How many are known at most. -/
def onceN (n : Int) : Nat := (if 1 + n.tmod 20 < 1 then 2 - (1 + n.tmod 20) else 1 + n.tmod 20).toNat
theorem tmod20 (n : Int) : -20 < n.tmod 20 ∧ n.tmod 20 < 20 := by
  constructor
  · have := Int.lt_tmod_of_pos n (b := 20) (by omega); omega
  · exact Int.tmod_lt_of_pos n (by omega)
theorem onceN_bd (n : Int) : 1 ≤ onceN n ∧ onceN n ≤ 20 := by
  have := tmod20 n
  unfold onceN
  split <;> omega
set_option maxRecDepth 100000 in
set_option maxHeartbeats 4000000 in
theorem DrcOnce_walk (w : World) (n : Int) (hn : IsI n) (a1 : Option Addr) (n1 c1 : Nat) (l1 : List Int) (e1 : l1.length = n1) (hm1 : n1 ≤ maxLen) (h1 : IntQ w a1 l1) (a2 : Option Addr) (n2 c2 : Nat) (l2 : List Int) (e2 : l2.length = n2) (hm2 : n2 ≤ maxLen) (h2 : Bytes w a2 l2) :
    Calls Try.prog 4 #[.int .i64 n, .slice a1 n1 c1, .slice a2 n2 c2] w fun e w' => e = .returned (.bool true) ∧ Below w.heap.size w w' := by
  have HKN := hid (known18 w)
  by_cases hbig : 2000 < n2
  · have hbz : (2000 : Int) < (n2 : Int) := by omega
    clear h1 h2 e1 e2
    go_enter Try.func4, Try.ntmps4
    go_wp2_with (go_at_call 5; refine HKN.out.mono ?_; rintro e w1 ⟨rfl, hb1⟩)
    go_ret
    exact ⟨rfl, hb1⟩
  · have hbz : ¬ (2000 : Int) < (n2 : Int) := by omega
    have HI := hid h1
    have HY := hid h2
    have HE1 := hid e1
    have HE2 := hid e2
    have ht := tmod20 n
    have HNB := hid (onceN_bd n)
    have h19 : -20 < n.tmod 20 := ht.1
    have h20 : n.tmod 20 < 20 := ht.2
    clear h1 h2 e1 e2 ht
    go_enter Try.func4, Try.ntmps4
    obtain ⟨N, hNd⟩ : ∃ N, onceN n = N := ⟨_, rfl⟩
    rw [hNd] at HNB
    have hN1 := HNB.out.1
    have hN2 := HNB.out.2
    obtain ⟨tm, htm⟩ : ∃ t, n.tmod 20 = t := ⟨_, rfl⟩
    unfold onceN at hNd
    rw [htm] at hNd h19 h20
    by_cases hlo : 1 + tm < 1
    · rw [if_pos hlo] at hNd
      obtain rfl : tm = 1 - N := by omega
      have hz1 : (1 : Int) + (1 - N) = 2 - N := by omega
      have hz2 : (2 : Int) - (2 - N) = N := by omega
      have hz3 : (2 : Int) - N < 1 := by omega
      clear hlo hNd h19 h20
      go_upto_region 6 with (go_at_call 5; refine HKN.out.mono ?_; rintro e w1 ⟨rfl, hb1⟩; have HB1 := hid hb1; clear hb1 HKN)
      
      have HN := hid (dNew_yes w1 N (by omega) (by omega))
      go_upto_region 11 with (go_at_call 6; refine HN.out.mono ?_; rintro e w2 ⟨p, S, rfl, hT2, hb2, hS2⟩; have HT2 := hid hT2; have HB2 := hid (HB1.out.trans (hb2.mono HB1.out.size)); have HS2 : Hid (∀ b, S b → w.heap.size ≤ b) := hid (fun b hb => Nat.le_trans HB1.out.size (hS2 b hb)); clear hT2 hb2 hS2 HN)
      obtain ⟨W3, W4, g9, hg9, hW3, h39, hW4, h49, hb4⟩ := box_one w2 kM
      have H39 := hid h39
      have HZ3 := hW3.symm
      have hT4 := HT2.out.later hb4
      have hnM : ¬ S g9 := fun e => by obtain ⟨gm, vo, hx⟩ := HT2.out; have := hx.slt g9 e; omega
      have HKM := hid (show KB W4 S g9 kM from ⟨h49, hnM⟩)
      have HT4 := hid hT4
      have HB4 := hid (HB2.out.trans (hb4.mono HB2.out.size))
      clear h39 hT4 hnM h49 hb4 HT2 HB2 hW3
      go_upto_region 12 with (refine wpList_store_row rfl 33 _ _ rfl g9 (kL kM).toArray rfl rfl 33 _ H39.out sizeKy rfl (kOne kM) ?_; rw [← hW4]; clear hW4)
      have hbc : beC N [] kM = 1 := by unfold beC; simp [fndT, rmT, show 0 < N by omega]
      have hbl : beL N [] kM = [(kM, none)] := by unfold beL; simp [fndT, rmT, runT, show 0 < N by omega]
      have HBE : Hid (Calls Try.prog 8 #[.pointer (some ⟨p, 0, none⟩), kV kM] W4 fun e w' => ∃ a c S', e = .returned (.tuple #[.int .i64 1, .slice a 0 c]) ∧ TbAt w' p S' N [(kM, none)] 1 ∧ Kp S W4 S' w') := hid ((Begin_any W4 p S N [] 0 HT4.out kM kM_ok (by omega) (by omega) (by simp) (by omega) (fun l h => by simp [fndT] at h)).mono (fun e w' h => by
        obtain ⟨a, c, S', rfl, _, _, h1, h2⟩ := h
        rw [hbc]
        rw [hbl] at h1
        exact ⟨a, c, S', rfl, h1, h2⟩))
      clear hbc hbl
      go_upto_region 13 with (first
        | (refine wpList_load_row rfl 33 _ rfl g9 rfl 33 _ (0, 0) _ HKM.out.1 Try.underlying33 rfl sizeKy ?_)
        | (go_at_call 8; refine HBE.out.mono ?_; rintro e w5 ⟨a5, c5, S5, rfl, hT5, hK5⟩; have HT5 := hid hT5; have HKM5 := hid (HKM.out.kp hK5); have HB5 := hid (Kp.below0 hK5 HB4.out HS2.out); clear hT5 hK5))
      have HEN : Hid (Calls Try.prog 11 #[.pointer (some ⟨p, 0, none⟩), kV kM, .slice a2 n2 c2] w5 fun e w' => ∃ S', e = .returned (.int .i64 0) ∧ TbAt w' p S' N [(kM, some l2)] 2 ∧ Kp S5 w5 S' w') := hid ((End_any w5 p S5 N [(kM, none)] 1 HT5.out kM kM_ok (by omega) a2 n2 c2 l2 HE2.out (by omega) (HY.out.later HB5.out.1)).mono (fun e w' h => by
        obtain ⟨S', rfl, h1, h2⟩ := h
        rw [show enL [(kM, none)] kM l2 = [(kM, some l2)] by simp [enL, fndT, doneT]] at h1
        exact ⟨S', by rw [show enC [(kM, none)] kM = 0 by simp [enC, fndT]], h1, h2⟩))
      have HE2ND : Hid (∀ W S6, TbAt W p S6 N [(kM, some l2)] 2 → Below w.heap.size w W → Calls Try.prog 11 #[.pointer (some ⟨p, 0, none⟩), kV kM, .slice a2 n2 c2] W fun e w' => ∃ S', e = .returned (.int .i64 2) ∧ TbAt w' p S' N [(kM, some l2)] 3 ∧ Kp S6 W S' w') := hid (fun W S6 hT hB => (End_any W p S6 N [(kM, some l2)] 2 hT kM kM_ok (by omega) a2 n2 c2 l2 HE2.out (by omega) (HY.out.later hB)).mono (fun e w' h => by
        obtain ⟨S', rfl, h1, h2⟩ := h
        rw [show enL [(kM, some l2)] kM l2 = [(kM, some l2)] by simp [enL, fndT]] at h1
        exact ⟨S', by rw [show enC [(kM, some l2)] kM = 2 by simp [enC, fndT]], h1, h2⟩))
      go_upto_region 15 with (first
        | (refine wl_val 53 (by rfl) rfl (ex_load 33 (.tmp 9) rfl g9 rfl 33 _ (0, 0) _ HKM5.out.1 Try.underlying33 sizeKy) ?_)
        | (go_at_call 11; refine HEN.out.mono ?_; rintro e w6 ⟨S6, rfl, hT6, hK6⟩; have HKM6 := hid (HKM5.out.kp hK6); have HB6 := hid (Kp.below0 hK6 HB5.out.1 HB5.out.2); have HEN2 := hid (HE2ND.out w6 S6 hT6 (Kp.below0 hK6 HB5.out.1 HB5.out.2).1); clear hT6 hK6 HEN)
        | (refine wl_val 60 (by rfl) rfl (ex_load 33 (.tmp 9) rfl g9 rfl 33 _ (0, 0) _ HKM6.out.1 Try.underlying33 sizeKy) ?_)
        | (go_at_call 11; refine HEN2.out.mono ?_; rintro e w7 ⟨S7, rfl, hT7, hK7⟩; have HKM7 := hid (HKM6.out.kp hK7); have HB7 := hid (Kp.below0 hK7 HB6.out.1 HB6.out.2); have HT7 := hid hT7; clear hT7 hK7 HEN2))
      clear HE2ND HT5 HKM5 HB5 HKM6 HB6 HT4 HKM HB4 HS2 HBE H39 HZ3 hg9
      go_wp2
      go_loopw [12, 13] (fun bv iv wr => ∃ bg i : Nat, ∃ S' L, bv = .int .i64 bg ∧ iv = .int .i64 i ∧ i ≤ 60 ∧ bg ≤ i ∧ Hid (TbAt wr p S' N L (3 + 3 * i)) ∧ Hid (OnceI N kM l2 L bg) ∧ Hid (KB wr S' g9 kM) ∧ Hid (Below w.heap.size w wr) ∧ Hid (∀ b, S' b → w.heap.size ≤ b)) (fun _ iv _ => 60 - (intOfQ iv).toNat)
      case atStart => exact ⟨0, 0, S7, _, rfl, rfl, by omega, by omega, HT7, hid (OnceI.zero N (by omega) kM l2 (by have := HE2.out; omega)), HKM7, hid HB7.out.1, hid HB7.out.2⟩
      case round =>
        obtain ⟨bg, i, S8, L, rfl, rfl, hi, hbi, HT, HO, HK, HB, HS⟩ := hrel
        clear HT7 HKM7 HB7
        by_cases hlt : i < n1
        · by_cases hlt2 : i < 60
          · obtain ⟨b1, o1, rfl, hc1⟩ := HI.out i (by rw [HE1.out]; exact hlt)
            have hc1w := cell_later HB.out hc1
            obtain ⟨x, hx⟩ : ∃ x, l1.getD i 0 = x := ⟨_, rfl⟩
            rw [hx] at hc1w
            obtain ⟨W3, W4, g14, hg14, hW3, h3, hW4, h4, hb4⟩ := box_one wr (kO x)
            have H3 := hid h3
            have HZ3 := hW3.symm
            have hT4 := HT.out.later hb4
            have hnM : ¬ S8 g14 := fun e => by obtain ⟨gm, vo, hx⟩ := HT.out; have := hx.slt g14 e; omega
            have HKO := hid (show KB W4 S8 g14 (kO x) from ⟨h4, hnM⟩)
            have HKM := hid (HK.out.later hb4)
            have HT4 := hid hT4
            have HB4 := hid (HB.out.trans (hb4.mono HB.out.size))
            have hwx : IntKind.u32.wrap x = x % 4294967296 := IntKind.wrap_u32 x
            clear h3 hT4 hnM h4 hb4 hc1 hx hW3
            go_upto_region 20 with (refine wpList_store_row rfl 33 _ _ rfl g14 (kL (kO x)).toArray rfl (by simp [Act.eval, kO]) 33 _ H3.out sizeKy rfl (kOne (kO x)) ?_; rw [← hW4]; clear hW4)
            have HBG := hid (Begin_any W4 p S8 N L (3 + 3 * i) HT4.out (kO x) (kO_ok x) (by omega) (by omega) HO.out.len (by omega) (fun l h => HO.out.begun _ l h))
            go_upto_region 21 with (first
              | (refine wpList_load_row rfl 33 _ rfl g14 rfl 33 _ (0, 0) _ HKO.out.1 Try.underlying33 rfl sizeKy ?_)
              | (go_at_call 8; refine HBG.out.mono ?_; rintro e w5 ⟨a5, c5, S9, rfl, hy5, hc5, hT5, hK5⟩; have HT5 := hid hT5; have HKM5 := hid (HKM.out.kp hK5); have HKO5 := hid (HKO.out.kp hK5); have HB5 := hid (Kp.below0 hK5 HB4.out HS.out); clear hy5 hc5 hT5 hK5))
            have HEN := hid (End_any w5 p S9 N (beL N L (kO x)) (3 + 3 * i + 1) HT5.out (kO x) (kO_ok x) (by omega) none 0 0 [] rfl (by omega) (Bytes.nil_ _ _))
            have HOI := hid (HO.out.step (by omega) (kO_ne x))
            obtain ⟨L', hL'⟩ : ∃ M, enL (beL N L (kO x)) (kO x) [] = M := ⟨_, rfl⟩
            obtain ⟨bc, hbc⟩ : ∃ b, beC N L (kO x) = b := ⟨_, rfl⟩
            rw [hL', hbc] at HOI
            have HEN2 : Hid (Calls Try.prog 11 #[.pointer (some ⟨p, 0, none⟩), kV (kO x), .slice none 0 0] w5 fun e w' => ∃ er S', e = .returned (.int .i64 er) ∧ TbAt w' p S' N L' (3 + 3 * i + 2) ∧ Kp S9 w5 S' w') := hid (HEN.out.mono (fun e w' h => by
              obtain ⟨S', rfl, h1, h2⟩ := h
              rw [hL'] at h1
              exact ⟨_, S', rfl, h1, h2⟩))
            simp only [hbc]
            clear hL' hbc HEN HBG HT4 HKM HKO HB4 HT HO HK HB HS H3 HZ3 hg14 hc1w hwx HT5
            have HEN := HEN2
            clear HEN2
            by_cases hb1 : bc = 1
            · subst hb1
              rw [if_pos rfl] at HOI
              go_upto_region 24 with (first
                | (refine wpList_load_row rfl 33 _ rfl g14 rfl 33 _ (0, 0) _ HKO5.out.1 Try.underlying33 rfl sizeKy ?_)
                | (go_at_call 11; refine HEN.out.mono ?_; rintro e w6 ⟨er, S10, rfl, hT6, hK6⟩; have HT6 := hid hT6; have HKM6 := hid (HKM5.out.kp hK6); have HB6 := hid (Kp.below0 hK6 HB5.out.1 HB5.out.2); clear hT6 hK6 HEN))
              have HKW := hid (Known_any w6 p S10 N L' (3 + 3 * i + 2) HT6.out (by have := HOI.out.len; omega))
              obtain ⟨ln, hln⟩ : ∃ m, L'.length = m := ⟨_, rfl⟩
              have hln2 : ¬ ((N : Int) < (ln : Int)) := by have := HOI.out.len; omega
              have HKW2 : Hid (Calls Try.prog 13 #[.pointer (some ⟨p, 0, none⟩)] w6 fun e w' => ∃ a c, e = .returned (.slice a ln c) ∧ Below w6.heap.size w6 w') := hid (HKW.out.mono (fun e w' h => by
                obtain ⟨a, c, rfl, _, _, h4⟩ := h
                exact ⟨a, c, by rw [hln], h4⟩))
              clear HKW hln HKO5 HB5 HKM5
              go_upto_region 26 with (go_at_call 13; refine HKW2.out.mono ?_; rintro e w7 ⟨a7, c7, rfl, hb7⟩; have HT7 := hid (HT6.out.later hb7); have HKM7 := hid (HKM6.out.later hb7); have HB7 := hid (HB6.out.1.trans (hb7.mono HB6.out.1.size)); have HS7 := hid HB6.out.2; clear hb7 HT6 HKM6 HB6 HKW2)
              by_cases hbn : (bg + 1) < N
              · have hbz : (bg + 1 : Int) < (N : Int) := by omega
                have hf := (HOI.out.early hbn).2
                obtain ⟨eC, eR, eL⟩ := beC_known (n := N) hf
                have HBM : Hid (Calls Try.prog 8 #[.pointer (some ⟨p, 0, none⟩), kV kM] w7 fun e w' => ∃ a c S', e = .returned (.tuple #[.int .i64 3, .slice a n2 c]) ∧ Bytes w' a l2 ∧ TbAt w' p S' N L' (3 + 3 * (i + 1)) ∧ Kp S10 w7 S' w') := hid ((Begin_any w7 p S10 N L' (3 + 3 * i + 2) HT7.out kM kM_ok (by omega) (by omega) HOI.out.len (by omega) (fun l h => HOI.out.begun _ l h)).mono (fun e w' h => by
                  obtain ⟨a, c, S', rfl, hy, _, h1, h2⟩ := h
                  rw [eR] at hy
                  rw [eL] at h1
                  exact ⟨a, c, S', by rw [eC, eR, show ((some l2).getD [] : List Int) = l2 from rfl, HE2.out]; rfl, hy.bytes, h1, h2⟩))
                clear hf eC eR eL HT7
                go_upto_region 28 with (first
                  | (refine wpList_load_row rfl 33 _ rfl g9 rfl 33 _ (0, 0) _ HKM7.out.1 Try.underlying33 rfl sizeKy ?_)
                  | (go_at_call 8; refine HBM.out.mono ?_; rintro e w8 ⟨a8, c8, S11, rfl, hy8, hT8, hK8⟩; have HY8 := hid hy8; have HT8 := hid hT8; have HKM8 := hid (HKM7.out.kp hK8); have HB8 := hid (Kp.below0 hK8 HB7.out HS7.out); clear hy8 hT8 hK8 HBM))
                have ca := conv0 (cap := c8) HY8.out HE2.out
                have cb := conv0 (cap := c2) (HY.out.later HB8.out.1) HE2.out
                clear HKM7 HB7 HS7 HY8
                go_wp2
                go_roundw
                case rel => exact ⟨(bg + 1), i + 1, S11, L', by go_num, by go_num, by omega, by omega, HT8, HOI, HKM8, hid HB8.out.1, hid HB8.out.2⟩
                case measure => simp [intOfQ]; omega
              · have hbz : ¬ (bg + 1 : Int) < (N : Int) := by omega
                have HT8 : Hid (TbAt w7 p S10 N L' (3 + 3 * (i + 1))) := hid (let ⟨gm, vo, h⟩ := HT7.out; ⟨gm, vo, h.mono (by omega)⟩)
                clear HT7
                go_wp2
                go_roundw
                case rel => exact ⟨(bg + 1), i + 1, S10, L', by go_num, by go_num, by omega, by omega, HT8, HOI, HKM7, HB7, HS7⟩
                case measure => simp [intOfQ]; omega
            · rw [if_neg hb1] at HOI
              go_upto_region 24 with (first
                | (refine wpList_load_row rfl 33 _ rfl g14 rfl 33 _ (0, 0) _ HKO5.out.1 Try.underlying33 rfl sizeKy ?_)
                | (go_at_call 11; refine HEN.out.mono ?_; rintro e w6 ⟨er, S10, rfl, hT6, hK6⟩; have HT6 := hid hT6; have HKM6 := hid (HKM5.out.kp hK6); have HB6 := hid (Kp.below0 hK6 HB5.out.1 HB5.out.2); clear hT6 hK6 HEN))
              have HKW := hid (Known_any w6 p S10 N L' (3 + 3 * i + 2) HT6.out (by have := HOI.out.len; omega))
              obtain ⟨ln, hln⟩ : ∃ m, L'.length = m := ⟨_, rfl⟩
              have hln2 : ¬ ((N : Int) < (ln : Int)) := by have := HOI.out.len; omega
              have HKW2 : Hid (Calls Try.prog 13 #[.pointer (some ⟨p, 0, none⟩)] w6 fun e w' => ∃ a c, e = .returned (.slice a ln c) ∧ Below w6.heap.size w6 w') := hid (HKW.out.mono (fun e w' h => by
                obtain ⟨a, c, rfl, _, _, h4⟩ := h
                exact ⟨a, c, by rw [hln], h4⟩))
              clear HKW hln HKO5 HB5 HKM5
              go_upto_region 26 with (go_at_call 13; refine HKW2.out.mono ?_; rintro e w7 ⟨a7, c7, rfl, hb7⟩; have HT7 := hid (HT6.out.later hb7); have HKM7 := hid (HKM6.out.later hb7); have HB7 := hid (HB6.out.1.trans (hb7.mono HB6.out.1.size)); have HS7 := hid HB6.out.2; clear hb7 HT6 HKM6 HB6 HKW2)
              by_cases hbn : bg < N
              · have hbz : (bg : Int) < (N : Int) := by omega
                have hf := (HOI.out.early hbn).2
                obtain ⟨eC, eR, eL⟩ := beC_known (n := N) hf
                have HBM : Hid (Calls Try.prog 8 #[.pointer (some ⟨p, 0, none⟩), kV kM] w7 fun e w' => ∃ a c S', e = .returned (.tuple #[.int .i64 3, .slice a n2 c]) ∧ Bytes w' a l2 ∧ TbAt w' p S' N L' (3 + 3 * (i + 1)) ∧ Kp S10 w7 S' w') := hid ((Begin_any w7 p S10 N L' (3 + 3 * i + 2) HT7.out kM kM_ok (by omega) (by omega) HOI.out.len (by omega) (fun l h => HOI.out.begun _ l h)).mono (fun e w' h => by
                  obtain ⟨a, c, S', rfl, hy, _, h1, h2⟩ := h
                  rw [eR] at hy
                  rw [eL] at h1
                  exact ⟨a, c, S', by rw [eC, eR, show ((some l2).getD [] : List Int) = l2 from rfl, HE2.out]; rfl, hy.bytes, h1, h2⟩))
                clear hf eC eR eL HT7
                go_upto_region 28 with (first
                  | (refine wpList_load_row rfl 33 _ rfl g9 rfl 33 _ (0, 0) _ HKM7.out.1 Try.underlying33 rfl sizeKy ?_)
                  | (go_at_call 8; refine HBM.out.mono ?_; rintro e w8 ⟨a8, c8, S11, rfl, hy8, hT8, hK8⟩; have HY8 := hid hy8; have HT8 := hid hT8; have HKM8 := hid (HKM7.out.kp hK8); have HB8 := hid (Kp.below0 hK8 HB7.out HS7.out); clear hy8 hT8 hK8 HBM))
                have ca := conv0 (cap := c8) HY8.out HE2.out
                have cb := conv0 (cap := c2) (HY.out.later HB8.out.1) HE2.out
                clear HKM7 HB7 HS7 HY8
                go_wp2
                go_roundw
                case rel => exact ⟨bg, i + 1, S11, L', rfl, by go_num, by omega, by omega, HT8, HOI, HKM8, hid HB8.out.1, hid HB8.out.2⟩
                case measure => simp [intOfQ]; omega
              · have hbz : ¬ (bg : Int) < (N : Int) := by omega
                have HT8 : Hid (TbAt w7 p S10 N L' (3 + 3 * (i + 1))) := hid (let ⟨gm, vo, h⟩ := HT7.out; ⟨gm, vo, h.mono (by omega)⟩)
                clear HT7
                go_wp2
                go_roundw
                case rel => exact ⟨bg, i + 1, S10, L', rfl, by go_num, by omega, by omega, HT8, HOI, HKM7, HB7, HS7⟩
                case measure => simp [intOfQ]; omega
          · have hlz : ¬ (i : Int) < 60 := by omega
            have hlz2 : (i : Int) < (n1 : Int) := by omega
            have HBX := hid HB.out
            go_wp2
            go_ret
            exact ⟨rfl, HBX.out⟩
        · have hlz : ¬ (i : Int) < (n1 : Int) := by omega
          have HBX := hid HB.out
          go_wp2
          go_ret
          exact ⟨rfl, HBX.out⟩
    · rw [if_neg hlo] at hNd
      obtain rfl : tm = N - 1 := by omega
      have hz1 : (1 : Int) + (N - 1) = N := by omega
      have hz3 : ¬ (N : Int) < 1 := by omega
      clear hlo hNd h19 h20
      go_upto_region 6 with (go_at_call 5; refine HKN.out.mono ?_; rintro e w1 ⟨rfl, hb1⟩; have HB1 := hid hb1; clear hb1 HKN)
      
      have HN := hid (dNew_yes w1 N (by omega) (by omega))
      go_upto_region 11 with (go_at_call 6; refine HN.out.mono ?_; rintro e w2 ⟨p, S, rfl, hT2, hb2, hS2⟩; have HT2 := hid hT2; have HB2 := hid (HB1.out.trans (hb2.mono HB1.out.size)); have HS2 : Hid (∀ b, S b → w.heap.size ≤ b) := hid (fun b hb => Nat.le_trans HB1.out.size (hS2 b hb)); clear hT2 hb2 hS2 HN)
      obtain ⟨W3, W4, g9, hg9, hW3, h39, hW4, h49, hb4⟩ := box_one w2 kM
      have H39 := hid h39
      have HZ3 := hW3.symm
      have hT4 := HT2.out.later hb4
      have hnM : ¬ S g9 := fun e => by obtain ⟨gm, vo, hx⟩ := HT2.out; have := hx.slt g9 e; omega
      have HKM := hid (show KB W4 S g9 kM from ⟨h49, hnM⟩)
      have HT4 := hid hT4
      have HB4 := hid (HB2.out.trans (hb4.mono HB2.out.size))
      clear h39 hT4 hnM h49 hb4 HT2 HB2 hW3
      go_upto_region 12 with (refine wpList_store_row rfl 33 _ _ rfl g9 (kL kM).toArray rfl rfl 33 _ H39.out sizeKy rfl (kOne kM) ?_; rw [← hW4]; clear hW4)
      have hbc : beC N [] kM = 1 := by unfold beC; simp [fndT, rmT, show 0 < N by omega]
      have hbl : beL N [] kM = [(kM, none)] := by unfold beL; simp [fndT, rmT, runT, show 0 < N by omega]
      have HBE : Hid (Calls Try.prog 8 #[.pointer (some ⟨p, 0, none⟩), kV kM] W4 fun e w' => ∃ a c S', e = .returned (.tuple #[.int .i64 1, .slice a 0 c]) ∧ TbAt w' p S' N [(kM, none)] 1 ∧ Kp S W4 S' w') := hid ((Begin_any W4 p S N [] 0 HT4.out kM kM_ok (by omega) (by omega) (by simp) (by omega) (fun l h => by simp [fndT] at h)).mono (fun e w' h => by
        obtain ⟨a, c, S', rfl, _, _, h1, h2⟩ := h
        rw [hbc]
        rw [hbl] at h1
        exact ⟨a, c, S', rfl, h1, h2⟩))
      clear hbc hbl
      go_upto_region 13 with (first
        | (refine wpList_load_row rfl 33 _ rfl g9 rfl 33 _ (0, 0) _ HKM.out.1 Try.underlying33 rfl sizeKy ?_)
        | (go_at_call 8; refine HBE.out.mono ?_; rintro e w5 ⟨a5, c5, S5, rfl, hT5, hK5⟩; have HT5 := hid hT5; have HKM5 := hid (HKM.out.kp hK5); have HB5 := hid (Kp.below0 hK5 HB4.out HS2.out); clear hT5 hK5))
      have HEN : Hid (Calls Try.prog 11 #[.pointer (some ⟨p, 0, none⟩), kV kM, .slice a2 n2 c2] w5 fun e w' => ∃ S', e = .returned (.int .i64 0) ∧ TbAt w' p S' N [(kM, some l2)] 2 ∧ Kp S5 w5 S' w') := hid ((End_any w5 p S5 N [(kM, none)] 1 HT5.out kM kM_ok (by omega) a2 n2 c2 l2 HE2.out (by omega) (HY.out.later HB5.out.1)).mono (fun e w' h => by
        obtain ⟨S', rfl, h1, h2⟩ := h
        rw [show enL [(kM, none)] kM l2 = [(kM, some l2)] by simp [enL, fndT, doneT]] at h1
        exact ⟨S', by rw [show enC [(kM, none)] kM = 0 by simp [enC, fndT]], h1, h2⟩))
      have HE2ND : Hid (∀ W S6, TbAt W p S6 N [(kM, some l2)] 2 → Below w.heap.size w W → Calls Try.prog 11 #[.pointer (some ⟨p, 0, none⟩), kV kM, .slice a2 n2 c2] W fun e w' => ∃ S', e = .returned (.int .i64 2) ∧ TbAt w' p S' N [(kM, some l2)] 3 ∧ Kp S6 W S' w') := hid (fun W S6 hT hB => (End_any W p S6 N [(kM, some l2)] 2 hT kM kM_ok (by omega) a2 n2 c2 l2 HE2.out (by omega) (HY.out.later hB)).mono (fun e w' h => by
        obtain ⟨S', rfl, h1, h2⟩ := h
        rw [show enL [(kM, some l2)] kM l2 = [(kM, some l2)] by simp [enL, fndT]] at h1
        exact ⟨S', by rw [show enC [(kM, some l2)] kM = 2 by simp [enC, fndT]], h1, h2⟩))
      go_upto_region 15 with (first
        | (refine wl_val 53 (by rfl) rfl (ex_load 33 (.tmp 9) rfl g9 rfl 33 _ (0, 0) _ HKM5.out.1 Try.underlying33 sizeKy) ?_)
        | (go_at_call 11; refine HEN.out.mono ?_; rintro e w6 ⟨S6, rfl, hT6, hK6⟩; have HKM6 := hid (HKM5.out.kp hK6); have HB6 := hid (Kp.below0 hK6 HB5.out.1 HB5.out.2); have HEN2 := hid (HE2ND.out w6 S6 hT6 (Kp.below0 hK6 HB5.out.1 HB5.out.2).1); clear hT6 hK6 HEN)
        | (refine wl_val 60 (by rfl) rfl (ex_load 33 (.tmp 9) rfl g9 rfl 33 _ (0, 0) _ HKM6.out.1 Try.underlying33 sizeKy) ?_)
        | (go_at_call 11; refine HEN2.out.mono ?_; rintro e w7 ⟨S7, rfl, hT7, hK7⟩; have HKM7 := hid (HKM6.out.kp hK7); have HB7 := hid (Kp.below0 hK7 HB6.out.1 HB6.out.2); have HT7 := hid hT7; clear hT7 hK7 HEN2))
      clear HE2ND HT5 HKM5 HB5 HKM6 HB6 HT4 HKM HB4 HS2 HBE H39 HZ3 hg9
      go_wp2
      go_loopw [12, 13] (fun bv iv wr => ∃ bg i : Nat, ∃ S' L, bv = .int .i64 bg ∧ iv = .int .i64 i ∧ i ≤ 60 ∧ bg ≤ i ∧ Hid (TbAt wr p S' N L (3 + 3 * i)) ∧ Hid (OnceI N kM l2 L bg) ∧ Hid (KB wr S' g9 kM) ∧ Hid (Below w.heap.size w wr) ∧ Hid (∀ b, S' b → w.heap.size ≤ b)) (fun _ iv _ => 60 - (intOfQ iv).toNat)
      case atStart => exact ⟨0, 0, S7, _, rfl, rfl, by omega, by omega, HT7, hid (OnceI.zero N (by omega) kM l2 (by have := HE2.out; omega)), HKM7, hid HB7.out.1, hid HB7.out.2⟩
      case round =>
        obtain ⟨bg, i, S8, L, rfl, rfl, hi, hbi, HT, HO, HK, HB, HS⟩ := hrel
        clear HT7 HKM7 HB7
        by_cases hlt : i < n1
        · by_cases hlt2 : i < 60
          · obtain ⟨b1, o1, rfl, hc1⟩ := HI.out i (by rw [HE1.out]; exact hlt)
            have hc1w := cell_later HB.out hc1
            obtain ⟨x, hx⟩ : ∃ x, l1.getD i 0 = x := ⟨_, rfl⟩
            rw [hx] at hc1w
            obtain ⟨W3, W4, g14, hg14, hW3, h3, hW4, h4, hb4⟩ := box_one wr (kO x)
            have H3 := hid h3
            have HZ3 := hW3.symm
            have hT4 := HT.out.later hb4
            have hnM : ¬ S8 g14 := fun e => by obtain ⟨gm, vo, hx⟩ := HT.out; have := hx.slt g14 e; omega
            have HKO := hid (show KB W4 S8 g14 (kO x) from ⟨h4, hnM⟩)
            have HKM := hid (HK.out.later hb4)
            have HT4 := hid hT4
            have HB4 := hid (HB.out.trans (hb4.mono HB.out.size))
            have hwx : IntKind.u32.wrap x = x % 4294967296 := IntKind.wrap_u32 x
            clear h3 hT4 hnM h4 hb4 hc1 hx hW3
            go_upto_region 20 with (refine wpList_store_row rfl 33 _ _ rfl g14 (kL (kO x)).toArray rfl (by simp [Act.eval, kO]) 33 _ H3.out sizeKy rfl (kOne (kO x)) ?_; rw [← hW4]; clear hW4)
            have HBG := hid (Begin_any W4 p S8 N L (3 + 3 * i) HT4.out (kO x) (kO_ok x) (by omega) (by omega) HO.out.len (by omega) (fun l h => HO.out.begun _ l h))
            go_upto_region 21 with (first
              | (refine wpList_load_row rfl 33 _ rfl g14 rfl 33 _ (0, 0) _ HKO.out.1 Try.underlying33 rfl sizeKy ?_)
              | (go_at_call 8; refine HBG.out.mono ?_; rintro e w5 ⟨a5, c5, S9, rfl, hy5, hc5, hT5, hK5⟩; have HT5 := hid hT5; have HKM5 := hid (HKM.out.kp hK5); have HKO5 := hid (HKO.out.kp hK5); have HB5 := hid (Kp.below0 hK5 HB4.out HS.out); clear hy5 hc5 hT5 hK5))
            have HEN := hid (End_any w5 p S9 N (beL N L (kO x)) (3 + 3 * i + 1) HT5.out (kO x) (kO_ok x) (by omega) none 0 0 [] rfl (by omega) (Bytes.nil_ _ _))
            have HOI := hid (HO.out.step (by omega) (kO_ne x))
            obtain ⟨L', hL'⟩ : ∃ M, enL (beL N L (kO x)) (kO x) [] = M := ⟨_, rfl⟩
            obtain ⟨bc, hbc⟩ : ∃ b, beC N L (kO x) = b := ⟨_, rfl⟩
            rw [hL', hbc] at HOI
            have HEN2 : Hid (Calls Try.prog 11 #[.pointer (some ⟨p, 0, none⟩), kV (kO x), .slice none 0 0] w5 fun e w' => ∃ er S', e = .returned (.int .i64 er) ∧ TbAt w' p S' N L' (3 + 3 * i + 2) ∧ Kp S9 w5 S' w') := hid (HEN.out.mono (fun e w' h => by
              obtain ⟨S', rfl, h1, h2⟩ := h
              rw [hL'] at h1
              exact ⟨_, S', rfl, h1, h2⟩))
            simp only [hbc]
            clear hL' hbc HEN HBG HT4 HKM HKO HB4 HT HO HK HB HS H3 HZ3 hg14 hc1w hwx HT5
            have HEN := HEN2
            clear HEN2
            by_cases hb1 : bc = 1
            · subst hb1
              rw [if_pos rfl] at HOI
              go_upto_region 24 with (first
                | (refine wpList_load_row rfl 33 _ rfl g14 rfl 33 _ (0, 0) _ HKO5.out.1 Try.underlying33 rfl sizeKy ?_)
                | (go_at_call 11; refine HEN.out.mono ?_; rintro e w6 ⟨er, S10, rfl, hT6, hK6⟩; have HT6 := hid hT6; have HKM6 := hid (HKM5.out.kp hK6); have HB6 := hid (Kp.below0 hK6 HB5.out.1 HB5.out.2); clear hT6 hK6 HEN))
              have HKW := hid (Known_any w6 p S10 N L' (3 + 3 * i + 2) HT6.out (by have := HOI.out.len; omega))
              obtain ⟨ln, hln⟩ : ∃ m, L'.length = m := ⟨_, rfl⟩
              have hln2 : ¬ ((N : Int) < (ln : Int)) := by have := HOI.out.len; omega
              have HKW2 : Hid (Calls Try.prog 13 #[.pointer (some ⟨p, 0, none⟩)] w6 fun e w' => ∃ a c, e = .returned (.slice a ln c) ∧ Below w6.heap.size w6 w') := hid (HKW.out.mono (fun e w' h => by
                obtain ⟨a, c, rfl, _, _, h4⟩ := h
                exact ⟨a, c, by rw [hln], h4⟩))
              clear HKW hln HKO5 HB5 HKM5
              go_upto_region 26 with (go_at_call 13; refine HKW2.out.mono ?_; rintro e w7 ⟨a7, c7, rfl, hb7⟩; have HT7 := hid (HT6.out.later hb7); have HKM7 := hid (HKM6.out.later hb7); have HB7 := hid (HB6.out.1.trans (hb7.mono HB6.out.1.size)); have HS7 := hid HB6.out.2; clear hb7 HT6 HKM6 HB6 HKW2)
              by_cases hbn : (bg + 1) < N
              · have hbz : (bg + 1 : Int) < (N : Int) := by omega
                have hf := (HOI.out.early hbn).2
                obtain ⟨eC, eR, eL⟩ := beC_known (n := N) hf
                have HBM : Hid (Calls Try.prog 8 #[.pointer (some ⟨p, 0, none⟩), kV kM] w7 fun e w' => ∃ a c S', e = .returned (.tuple #[.int .i64 3, .slice a n2 c]) ∧ Bytes w' a l2 ∧ TbAt w' p S' N L' (3 + 3 * (i + 1)) ∧ Kp S10 w7 S' w') := hid ((Begin_any w7 p S10 N L' (3 + 3 * i + 2) HT7.out kM kM_ok (by omega) (by omega) HOI.out.len (by omega) (fun l h => HOI.out.begun _ l h)).mono (fun e w' h => by
                  obtain ⟨a, c, S', rfl, hy, _, h1, h2⟩ := h
                  rw [eR] at hy
                  rw [eL] at h1
                  exact ⟨a, c, S', by rw [eC, eR, show ((some l2).getD [] : List Int) = l2 from rfl, HE2.out]; rfl, hy.bytes, h1, h2⟩))
                clear hf eC eR eL HT7
                go_upto_region 28 with (first
                  | (refine wpList_load_row rfl 33 _ rfl g9 rfl 33 _ (0, 0) _ HKM7.out.1 Try.underlying33 rfl sizeKy ?_)
                  | (go_at_call 8; refine HBM.out.mono ?_; rintro e w8 ⟨a8, c8, S11, rfl, hy8, hT8, hK8⟩; have HY8 := hid hy8; have HT8 := hid hT8; have HKM8 := hid (HKM7.out.kp hK8); have HB8 := hid (Kp.below0 hK8 HB7.out HS7.out); clear hy8 hT8 hK8 HBM))
                have ca := conv0 (cap := c8) HY8.out HE2.out
                have cb := conv0 (cap := c2) (HY.out.later HB8.out.1) HE2.out
                clear HKM7 HB7 HS7 HY8
                go_wp2
                go_roundw
                case rel => exact ⟨(bg + 1), i + 1, S11, L', by go_num, by go_num, by omega, by omega, HT8, HOI, HKM8, hid HB8.out.1, hid HB8.out.2⟩
                case measure => simp [intOfQ]; omega
              · have hbz : ¬ (bg + 1 : Int) < (N : Int) := by omega
                have HT8 : Hid (TbAt w7 p S10 N L' (3 + 3 * (i + 1))) := hid (let ⟨gm, vo, h⟩ := HT7.out; ⟨gm, vo, h.mono (by omega)⟩)
                clear HT7
                go_wp2
                go_roundw
                case rel => exact ⟨(bg + 1), i + 1, S10, L', by go_num, by go_num, by omega, by omega, HT8, HOI, HKM7, HB7, HS7⟩
                case measure => simp [intOfQ]; omega
            · rw [if_neg hb1] at HOI
              go_upto_region 24 with (first
                | (refine wpList_load_row rfl 33 _ rfl g14 rfl 33 _ (0, 0) _ HKO5.out.1 Try.underlying33 rfl sizeKy ?_)
                | (go_at_call 11; refine HEN.out.mono ?_; rintro e w6 ⟨er, S10, rfl, hT6, hK6⟩; have HT6 := hid hT6; have HKM6 := hid (HKM5.out.kp hK6); have HB6 := hid (Kp.below0 hK6 HB5.out.1 HB5.out.2); clear hT6 hK6 HEN))
              have HKW := hid (Known_any w6 p S10 N L' (3 + 3 * i + 2) HT6.out (by have := HOI.out.len; omega))
              obtain ⟨ln, hln⟩ : ∃ m, L'.length = m := ⟨_, rfl⟩
              have hln2 : ¬ ((N : Int) < (ln : Int)) := by have := HOI.out.len; omega
              have HKW2 : Hid (Calls Try.prog 13 #[.pointer (some ⟨p, 0, none⟩)] w6 fun e w' => ∃ a c, e = .returned (.slice a ln c) ∧ Below w6.heap.size w6 w') := hid (HKW.out.mono (fun e w' h => by
                obtain ⟨a, c, rfl, _, _, h4⟩ := h
                exact ⟨a, c, by rw [hln], h4⟩))
              clear HKW hln HKO5 HB5 HKM5
              go_upto_region 26 with (go_at_call 13; refine HKW2.out.mono ?_; rintro e w7 ⟨a7, c7, rfl, hb7⟩; have HT7 := hid (HT6.out.later hb7); have HKM7 := hid (HKM6.out.later hb7); have HB7 := hid (HB6.out.1.trans (hb7.mono HB6.out.1.size)); have HS7 := hid HB6.out.2; clear hb7 HT6 HKM6 HB6 HKW2)
              by_cases hbn : bg < N
              · have hbz : (bg : Int) < (N : Int) := by omega
                have hf := (HOI.out.early hbn).2
                obtain ⟨eC, eR, eL⟩ := beC_known (n := N) hf
                have HBM : Hid (Calls Try.prog 8 #[.pointer (some ⟨p, 0, none⟩), kV kM] w7 fun e w' => ∃ a c S', e = .returned (.tuple #[.int .i64 3, .slice a n2 c]) ∧ Bytes w' a l2 ∧ TbAt w' p S' N L' (3 + 3 * (i + 1)) ∧ Kp S10 w7 S' w') := hid ((Begin_any w7 p S10 N L' (3 + 3 * i + 2) HT7.out kM kM_ok (by omega) (by omega) HOI.out.len (by omega) (fun l h => HOI.out.begun _ l h)).mono (fun e w' h => by
                  obtain ⟨a, c, S', rfl, hy, _, h1, h2⟩ := h
                  rw [eR] at hy
                  rw [eL] at h1
                  exact ⟨a, c, S', by rw [eC, eR, show ((some l2).getD [] : List Int) = l2 from rfl, HE2.out]; rfl, hy.bytes, h1, h2⟩))
                clear hf eC eR eL HT7
                go_upto_region 28 with (first
                  | (refine wpList_load_row rfl 33 _ rfl g9 rfl 33 _ (0, 0) _ HKM7.out.1 Try.underlying33 rfl sizeKy ?_)
                  | (go_at_call 8; refine HBM.out.mono ?_; rintro e w8 ⟨a8, c8, S11, rfl, hy8, hT8, hK8⟩; have HY8 := hid hy8; have HT8 := hid hT8; have HKM8 := hid (HKM7.out.kp hK8); have HB8 := hid (Kp.below0 hK8 HB7.out HS7.out); clear hy8 hT8 hK8 HBM))
                have ca := conv0 (cap := c8) HY8.out HE2.out
                have cb := conv0 (cap := c2) (HY.out.later HB8.out.1) HE2.out
                clear HKM7 HB7 HS7 HY8
                go_wp2
                go_roundw
                case rel => exact ⟨bg, i + 1, S11, L', rfl, by go_num, by omega, by omega, HT8, HOI, HKM8, hid HB8.out.1, hid HB8.out.2⟩
                case measure => simp [intOfQ]; omega
              · have hbz : ¬ (bg : Int) < (N : Int) := by omega
                have HT8 : Hid (TbAt w7 p S10 N L' (3 + 3 * (i + 1))) := hid (let ⟨gm, vo, h⟩ := HT7.out; ⟨gm, vo, h.mono (by omega)⟩)
                clear HT7
                go_wp2
                go_roundw
                case rel => exact ⟨bg, i + 1, S10, L', rfl, by go_num, by omega, by omega, HT8, HOI, HKM7, HB7, HS7⟩
                case measure => simp [intOfQ]; omega
          · have hlz : ¬ (i : Int) < 60 := by omega
            have hlz2 : (i : Int) < (n1 : Int) := by omega
            have HBX := hid HB.out
            go_wp2
            go_ret
            exact ⟨rfl, HBX.out⟩
        · have hlz : ¬ (i : Int) < (n1 : Int) := by omega
          have HBX := hid HB.out
          go_wp2
          go_ret
          exact ⟨rfl, HBX.out⟩
end Go.Proofs.Ythgmghfegaemkaa
