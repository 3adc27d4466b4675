/- XdI, XdJ in one text. -/
import Derived.Test.YtgeecahpfjllgaaGreatDoorXdH
/- The document's reader: truths, bytes. -/
namespace Go.Proofs.YtgeecahpfjllgaaGreatDoor
open Go.RowKit Go.Maps
set_option linter.unusedVariables false

section
variable {w : World} {X : Nat → Prop} {p : Nat} {r : Rd}
theorem dLeft_any (h : RX w 74 X p r) : Calls Tryz.prog 34 #[.pointer (some ⟨p, 0, none⟩)] w fun e w' => e = .returned (.int .i64 ((r.l.length - r.k : Nat) : Int)) ∧ Below w.heap.size w w' := by
  obtain ⟨a, c, h1, h2, _⟩ := h.box
  obtain ⟨ln, hln⟩ : ∃ x, r.l.length = x := ⟨_, rfl⟩
  obtain ⟨k, hk⟩ : ∃ x, r.k = x := ⟨_, rfl⟩
  have hkl := h.hk
  have hll := h.hl
  rw [hln, hk] at h1 ⊢
  rw [hln] at hll hkl
  rw [hk] at hkl
  have c0 := cell_of h1 (i := 0) (v := .slice a ln c) rfl
  have c1 := cell_of h1 (i := 1) (v := .int .i64 k) rfl
  have hw : IntKind.i64.wrap ((ln : Int) - k) = (ln : Int) - k := IntWalk.i64_in _ (by omega)
  have HE : Hid ((ln : Int) - k = ((ln - k : Nat) : Int)) := hid (by omega)
  have HB := hid (Below.refl w.heap.size w)
  clear h h1 h2 hln hk
  go_enter Tryz.func34, Tryz.ntmps34
  go_wp2
  go_quiet (fail)
  go_wp2
  go_ret
  exact ⟨ret_int HE.out, below_drewN HB.out _⟩
end
end Go.Proofs.YtgeecahpfjllgaaGreatDoor

/- The document's reader: bytes and the noughts behind them. -/
namespace Go.Proofs.YtgeecahpfjllgaaGreatDoor
open Go.RowKit Go.Maps
set_option linter.unusedVariables false

/-- What a call that answers bytes leaves. -/
def BytesPost (w : World) (T : TypeId) (X : Nat → Prop) (p : Nat) (V : List Int) (r' : Rd) (e : Ending) (w' : World) : Prop :=
  (∃ a2 c2, e = .returned (.slice a2 V.length c2) ∧ By w' (New w) a2 V ∧ V.length ≤ c2) ∧ RX w' T X p r' ∧ Mods (fun b => b = p) w w'
theorem BytesPost.none_ {w w' : World} {T : TypeId} {X : Nat → Prop} {p : Nat} {r' : Rd} (h : RX w' T X p r') (hm : Mods (fun b => b = p) w w') : BytesPost w T X p [] r' (.returned (.slice none 0 0)) w' := ⟨⟨none, 0, rfl, By.nil _ _ _, Nat.le_refl _⟩, h, hm⟩
set_option maxRecDepth 100000 in
set_option maxHeartbeats 8000000 in
theorem dFixed_any {w : World} {X : Nat → Prop} {p : Nat} {r : Rd} (h : RX w 74 X p r) (n : Int) (hn : II16 n) :
    Calls Tryz.prog 63 #[.pointer (some ⟨p, 0, none⟩), .int .i64 n] w fun e w' => BytesPost w 74 X p (ansV r [] (fixP r.l r.k n)) (ansR r (fixP r.l r.k n)) e w' := by
  obtain ⟨a, c, h1, hc, hb⟩ := h.box
  have HLE : Hid (∀ W, RX W 74 X p r → Calls Tryz.prog 34 #[.pointer (some ⟨p, 0, none⟩)] W fun e w' => e = .returned (.int .i64 ((r.l.length - r.k : Nat) : Int)) ∧ Below W.heap.size W w') := hid (fun W hW => dLeft_any hW)
  have HH := hid h
  have hkl := h.hk
  have hll := h.hl
  unfold II16 at hn
  obtain ⟨l, k, er⟩ := r
  simp only at h1 hc hb hkl hll HLE ⊢
  have c2 := cell_of h1 (i := 2) (v := .int .i64 er) rfl
  by_cases h0 : er = 0
  rotate_left
  · have q1 : ansR ⟨l, k, er⟩ (fixP l k n) = ⟨l, k, er⟩ := by unfold ansR; rw [if_neg h0]
    have q2 : ansV ⟨l, k, er⟩ [] (fixP l k n) = [] := by unfold ansV; rw [if_neg h0]
    rw [q1, q2]
    have hne : (er != 0) = true := by simpa using h0
    clear q1 q2 h1 hc hb h HLE
    go_enter Tryz.func63, Tryz.ntmps63
    go_wp2
    go_ret
    exact BytesPost.none_ HH.out (Mods.refl _ _)
  subst h0
  have c0 := cell_of h1 (i := 0) (v := .slice a l.length c) rfl
  have c1 := cell_of h1 (i := 1) (v := .int .i64 k) rfl
  have f2 := froz_of h1 2
  obtain ⟨ln, hln⟩ : ∃ x, l.length = x := ⟨_, rfl⟩
  have HLN := hid hln
  have setE : Hid (∀ W E, Below w.heap.size w W → RX (W.setCell ⟨p, 2, none⟩ (.int .i64 E)) 74 X p ⟨l, k, E⟩ ∧ Mods (fun b => b = p) w (W.setCell ⟨p, 2, none⟩ (.int .i64 E))) := hid (fun W E hW => by
    have h5 := (hW.block p (Array.getElem?_eq_some_iff.1 h1).1).trans h1
    have h6 := setc h5 2 (.int .i64 E)
    have hM := (Mods.of_below (al := fun b => b = p) hW).setCell p 2 (.int .i64 E) rfl
    exact ⟨h.turn hc hb hM rfl hkl (by simpa using h6), hM⟩)
  unfold fixP
  rw [hln] at c0 hc h1 HLE hkl hll ⊢
  have HLT := hid ((Array.getElem?_eq_some_iff.1 h1).1)
  have H1 := hid h1
  by_cases n0 : n < 0
  · rw [if_pos n0]
    have q1 : ansR ⟨l, k, 0⟩ (⟨[], 1, k⟩ : Rs (List Int)) = ⟨l, k, 1⟩ := by simp [ansR]
    have q2 : ansV ⟨l, k, 0⟩ [] (⟨[], 1, k⟩ : Rs (List Int)) = [] := by simp [ansV]
    rw [q1, q2]
    clear q1 q2 h1 hc hb h HLE hln
    go_enter Tryz.func63, Tryz.ntmps63
    go_wp2
    go_ret
    obtain ⟨g1, g2⟩ := setE.out w 1 (Below.refl _ _)
    exact BytesPost.none_ g1 g2
  rw [if_neg n0]
  obtain ⟨t, rfl⟩ := Int.eq_ofNat_of_zero_le (show 0 ≤ n by omega)
  rw [Int.toNat_natCast]
  obtain ⟨m, hm⟩ : ∃ m, ln - k = m := ⟨_, rfl⟩
  rw [hm] at HLE
  have HLE2 : Hid (∀ W, Below w.heap.size w W → Calls Tryz.prog 34 #[.pointer (some ⟨p, 0, none⟩)] W fun e w' => e = .returned (.int .i64 (m : Int)) ∧ Below W.heap.size W w') := hid (fun W hW => HLE.out W (HH.out.later hW))
  have q3 : ansR ⟨l, k, 0⟩ (⟨[], 11, k⟩ : Rs (List Int)) = ⟨l, k, 11⟩ := by simp [ansR]
  have q4 : ansV ⟨l, k, 0⟩ [] (⟨[], 11, k⟩ : Rs (List Int)) = [] := by simp [ansV]
  by_cases n1 : t ≤ m
  rotate_left
  · rw [if_pos (by omega), q3, q4]
    have hgt : (m : Int) < t := by omega
    clear q3 q4 h1 hc hb h HLE hln hm
    go_enter Tryz.func63, Tryz.ntmps63
    go_wp2_with (go_at_call 34
                 refine (HLE2.out _ (Below.refl _ _)).mono ?_
                 rintro e w2 ⟨rfl, hb2⟩
                 have d5 := (hb2.block p HLT.out).trans H1.out
                 have d2 := cell_of d5 (i := 2) (v := .int .i64 0) rfl
                 have g2 := froz_of d5 2
                 have HB2 := hid hb2
                 clear d5 hb2)
    go_ret
    obtain ⟨g1, g2⟩ := setE.out w2 11 HB2.out
    exact BytesPost.none_ g1 g2
  have hngt : ¬ ((m : Int) < t) := by omega
  have hp4 := pad4_lt t
  have hd4 : (t + 3) / 4 * 4 = t + pad4 t := by unfold pad4; omega
  obtain ⟨p4, hp⟩ : ∃ x, pad4 t = x := ⟨_, rfl⟩
  rw [hp] at hp4 hd4 ⊢
  have w3 : IntKind.i64.wrap ((t : Int) + 3) = (t : Int) + 3 := IntWalk.i64_in _ (by omega)
  obtain ⟨d4, hdd⟩ : ∃ x, (t + 3) / 4 = x := ⟨_, rfl⟩
  rw [hdd] at hd4
  have hq0 : ((t : Int) + 3).tdiv 4 = (d4 : Int) := by rw [← hdd, Int.tdiv_eq_ediv_of_nonneg (by omega)]; omega
  have hq1 : ((t : Int) + 3) / 4 = (d4 : Int) := by rw [← hdd]; omega
  have w4 : IntKind.i64.wrap (d4 : Int) = (d4 : Int) := IntWalk.i64_in _ (by omega)
  have hq2 : (d4 : Int) * 4 = (t : Int) + p4 := by omega
  have w5 : IntKind.i64.wrap ((t : Int) + p4) = (t : Int) + p4 := IntWalk.i64_in _ (by omega)
  clear hdd hd4
  by_cases n2 : t + p4 ≤ m
  rotate_left
  · rw [if_pos (by omega), q3, q4]
    have hgt2 : (m : Int) < (t : Int) + p4 := by omega
    clear q3 q4 h1 hc hb h HLE hln hm hp
    go_enter Tryz.func63, Tryz.ntmps63
    go_wp2_with (first
      | (go_at_call 34
         refine (HLE2.out w (Below.refl _ _)).mono ?_
         rintro e w2 ⟨rfl, hb2⟩
         have HB2 := hid hb2
         clear hb2)
      | (go_at_call 34
         refine (HLE2.out _ HB2.out).mono ?_
         rintro e w6 ⟨rfl, hb6⟩
         have HB6 := hid (HB2.out.trans (hb6.mono HB2.out.size))
         have d5 := (HB6.out.block p HLT.out).trans H1.out
         have d2 := cell_of d5 (i := 2) (v := .int .i64 0) rfl
         have g2 := froz_of d5 2
         clear d5 hb6))
    go_ret
    obtain ⟨g1, g2⟩ := setE.out w6 11 HB6.out
    exact BytesPost.none_ g1 g2
  rw [if_neg (by omega)]
  clear q3 q4
  have hngt2 : ¬ ((m : Int) < (t : Int) + p4) := by omega
  obtain ⟨a3, hcut3, hby3⟩ := cut_lh a ln c k (k + t) (by omega) (by omega) hc
  obtain ⟨Z, hZ⟩ : ∃ Z, (l.drop (k + t)).take p4 = Z := ⟨_, rfl⟩
  obtain ⟨V, hV⟩ : ∃ V, (l.drop k).take t = V := ⟨_, rfl⟩
  have hZl : Z.length = p4 := by rw [← hZ, List.length_take, List.length_drop, hln]; omega
  have hVl : V.length = t := by rw [← hV, List.length_take, List.length_drop, hln]; omega
  have hZg : ∀ j, j < p4 → Z.getD j 0 = l.getD (k + (t + j)) 0 := fun j hj => by rw [← hZ, getD_cut l (k + t) p4 j hj, Nat.add_assoc]
  have HBZ : Hid (∀ W, Below w.heap.size w W → ∀ j, j < p4 → ∃ b off, a = some ⟨b, off, none⟩ ∧ W.cell? ⟨b, off + (k + (t + j)), none⟩ = some (.int .u8 (Z.getD j 0))) := hid (fun W hW j hj => by
    obtain ⟨b, off, e, hcl⟩ := ((hb w (Mods.refl _ _)).later hW).open_ (by omega)
    exact ⟨b, off, e, by rw [hZg j hj]; exact hcl _ (by omega)⟩)
  have HBV : Hid (∀ W, Mods (fun b => b = p) w W → Bytes W a3 V) := hid (fun W hW => by
    have h1 := hby3 W l hln (hb W (h.mods hW))
    rw [show k + t - k = t by omega, hV] at h1
    exact h1)
  have hcut : ∀ W, (Instr.slice 26 (.slice a ln c) (some (.int .i64 k)) (some (.int .i64 ((k : Int) + t))) none).run Tryz.prog W = .ok (.slice a3 t (c - k)) W := fun W => by
    have := hcut3 W
    rw [show k + t - k = t by omega] at this
    exact_mod_cast this
  obtain ⟨RR, hRR⟩ : ∃ R, (if Z.all (fun x => x == 0) then (⟨V, 0, k + (t + p4)⟩ : Rs (List Int)) else ⟨[], 15, k⟩) = R := ⟨_, rfl⟩
  have HRT : Hid (Z.all (fun x => x == 0) = true → ansV ⟨l, k, 0⟩ [] RR = V ∧ ansR ⟨l, k, 0⟩ RR = ⟨l, k + (t + p4), 0⟩) := hid (fun e => by rw [← hRR, if_pos e]; simp [ansV, ansR])
  have HRF : Hid (Z.all (fun x => x == 0) = false → ansV ⟨l, k, 0⟩ [] RR = [] ∧ ansR ⟨l, k, 0⟩ RR = ⟨l, k, 15⟩) := hid (fun e => by rw [← hRR, if_neg (by rw [e]; decide)]; simp [ansV, ansR])
  rw [hZ, hV, hRR]
  obtain ⟨AV, hAV⟩ : ∃ x, ansV ⟨l, k, 0⟩ [] RR = x := ⟨_, rfl⟩
  obtain ⟨AR, hAR⟩ : ∃ x, ansR ⟨l, k, 0⟩ RR = x := ⟨_, rfl⟩
  rw [hAV, hAR] at HRT HRF ⊢
  have hm9 : m ≤ 900000 := by omega
  have HVL := hid hVl
  have HZL := hid hZl
  have HC := hid hc
  have HB := hid hb
  have HM := hid hm
  have wkt : IntKind.i64.wrap ((k : Int) + t) = (k : Int) + t := IntWalk.i64_in _ (by omega)
  obtain ⟨ck, hck⟩ : ∃ x, c - k = x := ⟨_, rfl⟩
  rw [hck] at hcut
  clear hcut3 hby3 hZ hV hZl hVl hZg hRR hAV hAR h1 hc hb h HLE hln hm hp hck f2
  go_enter Tryz.func63, Tryz.ntmps63
  go_upto_region 9 with (first
    | (go_at_call 34
       refine (HLE2.out w (Below.refl _ _)).mono ?_
       rintro e w2 ⟨rfl, hb2⟩
       have HB2 := hid hb2
       clear hb2)
    | (go_at_call 34
       refine (HLE2.out _ HB2.out).mono ?_
       rintro e w6 ⟨rfl, hb6⟩
       have HB6 := hid (HB2.out.trans (hb6.mono HB2.out.size))
       have d5 := (HB6.out.block p HLT.out).trans H1.out
       have d0 := cell_of d5 (i := 0) (v := .slice a ln c) rfl
       have d1 := cell_of d5 (i := 1) (v := .int .i64 k) rfl
       clear d5 hb6))
  clear c0 c1 c2
  go_quiet (fail)
  obtain ⟨V0, hV0⟩ : ∃ W, W = w6.drewN nq := ⟨_, rfl⟩
  rw [← hV0]
  have HB0 := hid (show Below w.heap.size w V0 by rw [hV0]; exact below_drewN HB6.out _)
  clear hV0 d0 d1
  go_wp2
  go_loopw [6] (fun i wr => ∃ j : Nat, j ≤ p4 ∧ i = .int .i64 ((t : Int) + j) ∧ Below w.heap.size w wr ∧ (Z.take j).all (fun x => x == 0) = true) (fun i _ => t + p4 - (intOf i).toNat)
  case atStart => exact ⟨0, Nat.zero_le _, by simp, HB0.out, by simp⟩
  case round =>
    obtain ⟨j, hj, rfl, hbl, hall⟩ := hrel
    have d5 := (hbl.block p HLT.out).trans H1.out
    have d0 := cell_of d5 (i := 0) (v := .slice a ln c) rfl
    have d1 := cell_of d5 (i := 1) (v := .int .i64 k) rfl
    have HBL := hid hbl
    have D5 := hid d5
    clear d5
    by_cases hlt : j < p4
    · have hji : (t : Int) + j < (t : Int) + p4 := by omega
      obtain ⟨b5, off5, rfl, hcl⟩ := HBZ.out wr hbl j hlt
      have wkj : IntKind.i64.wrap ((k : Int) + ((t : Int) + j)) = (k : Int) + ((t : Int) + j) := IntWalk.i64_in _ (by omega)
      have wtj : IntKind.i64.wrap ((t : Int) + j + 1) = (t : Int) + j + 1 := IntWalk.i64_in _ (by omega)
      have hlo : (0 : Int) ≤ (k : Int) + ((t : Int) + j) := by omega
      have hhi : (k : Int) + ((t : Int) + j) < ln := by have := HM.out; omega
      have HS := hid (all_snoc Z j (by rw [HZL.out]; exact hlt))
      have HNT := hid (all_not Z j (by rw [HZL.out]; exact hlt))
      have HAL := hid hall
      have hcl2 : wr.cell? ⟨b5, off5 + ((k : Int) + ((t : Int) + j)).toNat, none⟩ = some (.int .u8 (Z.getD j 0)) := by
        rw [show ((k : Int) + ((t : Int) + j)).toNat = k + (t + j) by omega]; exact hcl
      generalize Z.getD j 0 = z at *
      clear hbl hall
      by_cases hz : z = 0
      · subst hz
        go_wp2
        go_quiet (fail)
        obtain ⟨V1, hV1⟩ : ∃ W, W = wr.drewN nq := ⟨_, rfl⟩
        rw [← hV1]
        have HB1 := hid (show Below w.heap.size w V1 by rw [hV1]; exact below_drewN HBL.out _)
        clear hV1 d0 d1 hcl hcl2
        go_wp2
        go_roundw
        case rel => exact ⟨j + 1, by omega, by first | go_num | (congr 1; omega), HB1.out, by rw [HS.out, HAL.out]; rfl⟩
        case measure => simp [intOf]; omega
      · have hzz : (z != 0) = true := by simpa using hz
        have HF := hid (HRF.out (HNT.out (by simpa using hz)))
        go_wp2
        go_quiet (fail)
        obtain ⟨V1, hV1⟩ : ∃ W, W = wr.drewN nq := ⟨_, rfl⟩
        rw [← hV1]
        have HB1 := hid (show Below w.heap.size w V1 by rw [hV1]; exact below_drewN HBL.out _)
        have d7 := (HB1.out.block p HLT.out).trans H1.out
        have d2 := cell_of d7 (i := 2) (v := .int .i64 0) rfl
        have g2 := froz_of d7 2
        clear hV1 d0 d1 hcl hcl2 d7
        go_wp2
        go_ret
        obtain ⟨g1, g2⟩ := setE.out V1 15 HB1.out
        rw [HF.out.1, HF.out.2]
        exact BytesPost.none_ g1 g2
    · obtain rfl : p4 = j := by omega
      have hji : ¬ ((t : Int) + p4 < (t : Int) + p4) := by omega
      have hall2 : Z.all (fun x => x == 0) = true := by rw [List.take_of_length_le (by rw [HZL.out]; exact Nat.le_refl _)] at hall; exact hall
      have HA := hid (HRT.out hall2)
      have g1 := froz_of D5.out 1
      have h6 := setc D5.out 1 (.int .i64 ((k : Int) + ((t : Int) + p4)))
      have M6 := hid ((Mods.of_below (al := fun b => b = p) HBL.out).setCell p 1 (.int .i64 ((k : Int) + ((t : Int) + p4))) rfl)
      have H6 := hid h6
      have wkp : IntKind.i64.wrap ((k : Int) + ((t : Int) + p4)) = (k : Int) + ((t : Int) + p4) := IntWalk.i64_in _ (by have := HM.out; omega)
      obtain ⟨V7, hV7⟩ : ∃ W, W = wr.setCell ⟨p, 1, none⟩ (.int .i64 ((k : Int) + ((t : Int) + p4))) := ⟨_, rfl⟩
      rw [← hV7] at M6 H6
      have HTY := hid (twinY V7 a3 t ck V HVL.out (by have := HM.out; omega) (HBV.out V7 M6.out) 26)
      obtain ⟨a8, c8, w8, hap, hy8, hc8, hb8⟩ := HTY.out
      have HY8 := hid hy8
      have HB8 := hid hb8
      have hV7' := hV7.symm
      clear hall hall2 h6 hbl hV7 hy8 hb8
      go_wp2_with (at_builtin; refine wpList_append_run rfl _ _ 26 rfl rfl rfl hap ?_)
      go_ret
      rw [HA.out.1, HA.out.2]
      refine ⟨⟨a8, c8, by rw [HVL.out]; rfl, HY8.out.weak (fun b hb _ => Nat.le_trans M6.out.size hb), by rw [HVL.out]; exact hc8⟩, RX.later (HH.out.turn (by rw [HLN.out]; exact HC.out) HB.out M6.out rfl (by rw [HLN.out]; show k + (t + p4) ≤ ln; have := HM.out; omega) ?_) HB8.out, M6.out.below HB8.out⟩
      have h9 := H6.out
      simp only [HLN.out]
      have e9 : ((k + (t + p4) : Nat) : Int) = (k : Int) + ((t : Int) + p4) := by omega
      rw [e9]
      simpa using h9
end Go.Proofs.YtgeecahpfjllgaaGreatDoor
