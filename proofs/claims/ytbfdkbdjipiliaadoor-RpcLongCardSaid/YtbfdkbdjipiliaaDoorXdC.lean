/- Reading: bytes and the noughts behind them. -/
import Derived.Test.YtbfdkbdjipiliaaDoorXdB
namespace Go.Proofs.YtbfdkbdjipiliaaDoor
open Go.RowKit Go.Maps
set_option linter.unusedVariables false

/-- n bytes at a place and the noughts behind them. -/
def fixP (l : List Int) (k : Nat) (n : Int) : Rs (List Int) :=
  if n < 0 then ⟨[], 1, k⟩ else if l.length < k + (n.toNat + pad4 n.toNat) then ⟨[], 11, k⟩
  else if ((l.drop (k + n.toNat)).take (pad4 n.toNat)).all (fun x => x == 0) then ⟨(l.drop k).take n.toNat, 0, k + (n.toNat + pad4 n.toNat)⟩ else ⟨[], 15, k⟩
set_option maxRecDepth 100000 in
theorem rest_any (w : World) (q : Nat) (a a2 : Option Addr) (n c k : Nat) (c0 : w.cell? ⟨q, 0, none⟩ = some (.slice a n c)) (c1 : w.cell? ⟨q, 1, none⟩ = some (.int .i64 k))
    (hcut : ∀ W, (Instr.slice 27 (.slice a n c) (some (.int .i64 k)) none none).run Tryd.prog W = .ok (.slice a2 (n - k) (c - k)) W) :
    Calls Tryd.prog 74 #[.pointer (some ⟨q, 0, none⟩)] w fun e w' => e = .returned (.slice a2 (n - k) (c - k)) ∧ Below w.heap.size w w' := by
  obtain ⟨m, hm⟩ : ∃ m, n - k = m := ⟨_, rfl⟩
  obtain ⟨d, hd⟩ : ∃ d, c - k = d := ⟨_, rfl⟩
  rw [hm, hd] at hcut ⊢
  have HB := hid (Below.refl w.heap.size w)
  clear hm hd
  go_enter Tryd.func74, Tryd.ntmps74
  go_wp2
  go_quiet (fail)
  go_wp2
  go_ret
  exact ⟨rfl, below_drewN HB.out _⟩
/-- What padded leaves. -/
def PadPost (w : World) (X : Nat → Prop) (q : Nat) (a : Option Addr) (c : Nat) (l : List Int) (R : Rs (List Int)) (e : Ending) (w' : World) : Prop :=
  ∃ a2 c2, e = .returned (.tuple #[.slice a2 R.v.length c2, .int .i64 R.e]) ∧ By w' (New w) a2 R.v ∧ R.v.length ≤ c2 ∧ (R.e = 0 → RQ w' X q a c l R.k) ∧ Mods (fun b => b = q) w w'
theorem PadPost.err {w w' : World} {X : Nat → Prop} {q : Nat} {a : Option Addr} {c : Nat} {l : List Int} {x : Int} {k : Nat} (hx : x ≠ 0) (hm : Mods (fun b => b = q) w w') : PadPost w X q a c l ⟨[], x, k⟩ (.returned (.tuple #[.slice none 0 0, .int .i64 x])) w' :=
  ⟨none, 0, rfl, By.nil _ _ _, Nat.le_refl _, fun e => absurd e hx, hm⟩
theorem all_snoc (Z : List Int) (j : Nat) (h : j < Z.length) : (Z.take (j + 1)).all (fun x => x == 0) = ((Z.take j).all (fun x => x == 0) && (Z.getD j 0 == 0)) := by
  rw [take_snoc Z j h, List.all_append]; simp
theorem all_not (Z : List Int) (j : Nat) (h : j < Z.length) (hz : (Z.getD j 0 == 0) = false) : Z.all (fun x => x == 0) = false := by
  rw [← List.take_append_drop (j + 1) Z, List.all_append, all_snoc Z j h, hz]; simp
set_option maxRecDepth 100000 in
set_option maxHeartbeats 4000000 in
theorem rpadded_any {w : World} {X : Nat → Prop} {q : Nat} {a : Option Addr} {c : Nat} {l : List Int} {k : Nat} (h : RQ w X q a c l k) (hk : k ≤ l.length) (n : Int) (hn : -9223372036854775808 ≤ n ∧ n ≤ 9223372036854775807) :
    Calls Tryd.prog 70 #[.pointer (some ⟨q, 0, none⟩), .int .i64 n] w fun e w' => PadPost w X q a c l (fixP l k n) e w' := by
  have hbx := h.box
  have hll := h.hl
  obtain ⟨a2, hcut, hby⟩ := cut_l a l.length c k hk h.hc
  obtain ⟨ln, hln⟩ : ∃ x, l.length = x := ⟨_, rfl⟩
  rw [hln] at hcut hby hbx hk hll
  have HR : Hid (∀ W, W.heap[q]? = some (.cells #[.slice a ln c, .int .i64 k] 101 (0, 0)) → Calls Tryd.prog 74 #[.pointer (some ⟨q, 0, none⟩)] W fun e w' => e = .returned (.slice a2 (ln - k) (c - k)) ∧ Below W.heap.size W w') :=
    hid (fun W hW => rest_any W q a a2 ln c k (cell_of hW rfl) (cell_of hW rfl) hcut)
  obtain ⟨m, hm⟩ : ∃ m, ln - k = m := ⟨_, rfl⟩
  obtain ⟨d, hd⟩ : ∃ d, c - k = d := ⟨_, rfl⟩
  have hmd : m ≤ d := by have := h.hc; omega
  have hkm : k + m = ln := by omega
  have hHR := HR.out w hbx
  rw [hm, hd] at hHR
  clear hcut HR
  have HR := hid hHR
  clear hHR
  have HH := hid h
  have HBX := hid hbx
  have HBY := hid hby
  have HLN := hid hln
  have hm9 : m ≤ 900000 := by omega
  unfold fixP
  rw [hln]
  clear h hbx hby hln hm hd
  by_cases n0 : n < 0
  · rw [if_pos n0]
    go_enter Tryd.func70, Tryd.ntmps70
    go_wp2_with (go_at_call 74; refine HR.out.mono ?_; rintro e w2 ⟨rfl, hb2⟩; have HB2 := hid hb2; clear hb2)
    go_ret2
    exact PadPost.err (by decide) (Mods.of_below HB2.out)
  rw [if_neg n0]
  obtain ⟨t, rfl⟩ := Int.eq_ofNat_of_zero_le (show 0 ≤ n by omega)
  rw [Int.toNat_natCast]
  by_cases n1 : t ≤ m
  rotate_left
  · rw [if_pos (by omega)]
    have hgt : (m : Int) < t := by omega
    go_enter Tryd.func70, Tryd.ntmps70
    go_wp2_with (go_at_call 74; refine HR.out.mono ?_; rintro e w2 ⟨rfl, hb2⟩; have HB2 := hid hb2; clear hb2)
    go_ret2
    exact PadPost.err (by decide) (Mods.of_below HB2.out)
  have hngt : ¬ ((m : Int) < t) := by omega
  have hp4 := pad4_lt t
  have HPA : Hid (∀ W, Calls Tryd.prog 68 #[.int .i64 t] W fun e w' => e = .returned (.int .i64 (pad4 t : Nat)) ∧ w' = W) := hid (fun W => padding_any t (by omega) W)
  obtain ⟨p, hp⟩ : ∃ p, pad4 t = p := ⟨_, rfl⟩
  rw [hp] at hp4 HPA ⊢
  have hw1 : IntKind.i64.wrap ((t : Int) + p) = (t : Int) + p := IntWalk.i64_in _ (by omega)
  by_cases n2 : t + p ≤ m
  rotate_left
  · rw [if_pos (by omega)]
    have hgt2 : (m : Int) < (t : Int) + p := by omega
    go_enter Tryd.func70, Tryd.ntmps70
    go_wp2_with (first
      | (go_at_call 74; refine HR.out.mono ?_; rintro e w2 ⟨rfl, hb2⟩; have HB2 := hid hb2; clear hb2)
      | (go_at_call 68; refine (HPA.out _).mono ?_; rintro e w3 ⟨rfl, hw3⟩; subst hw3))
    go_ret2
    exact PadPost.err (by decide) (Mods.of_below HB2.out)
  rw [if_neg (by omega)]
  have hngt2 : ¬ ((m : Int) < (t : Int) + p) := by omega
  obtain ⟨a3, hcut3, hby3⟩ := cut_lh a2 m d t (t + p) (by omega) n2 hmd
  obtain ⟨a4, hcut4, hby4⟩ := cut_h a2 m d t n1 hmd
  have hD : (l.drop k).length = m := by rw [List.length_drop, HLN.out]; omega
  obtain ⟨Z, hZ⟩ : ∃ Z, (l.drop (k + t)).take p = Z := ⟨_, rfl⟩
  obtain ⟨T, hT⟩ : ∃ T, (l.drop k).take t = T := ⟨_, rfl⟩
  have hZl : Z.length = p := by rw [← hZ, List.length_take, List.length_drop, HLN.out]; omega
  have hTl : T.length = t := by rw [← hT, List.length_take, List.length_drop, HLN.out]; omega
  have HB3 : Hid (∀ W, Mods (fun b => b = q) w W → Bytes W a3 Z) := hid (fun W hW => by
    have h1 := hby3 W (l.drop k) hD (HBY.out W l HLN.out (HH.out.hb W (hW.weak (fun b hb => .inl (by rw [hb]; exact HH.out.xq)))))
    rw [List.drop_drop, show t + p - t = p by omega, hZ] at h1
    exact h1)
  have HB4 : Hid (∀ W, Mods (fun b => b = q) w W → Bytes W a4 T) := hid (fun W hW => by
    have h1 := hby4 W (l.drop k) hD (HBY.out W l HLN.out (HH.out.hb W (hW.weak (fun b hb => .inl (by rw [hb]; exact HH.out.xq)))))
    rw [hT] at h1
    exact h1)
  have hcut3' : ∀ W, (Instr.slice 27 (.slice a2 m d) (some (.int .i64 t)) (some (.int .i64 ((t : Int) + p))) none).run Tryd.prog W = .ok (.slice a3 p (d - t)) W := fun W => by
    have := hcut3 W
    rw [show t + p - t = p by omega] at this
    exact_mod_cast this
  rw [hZ, hT]
  have HZL := hid hZl
  have HTL := hid hTl
  have HKM := hid hkm
  obtain ⟨RR, hRR⟩ : ∃ R, (if Z.all (fun x => x == 0) then (⟨T, 0, k + (t + p)⟩ : Rs (List Int)) else ⟨[], 15, k⟩) = R := ⟨_, rfl⟩
  have HRT : Hid (Z.all (fun x => x == 0) = true → RR = ⟨T, 0, k + (t + p)⟩) := hid (fun e => by rw [← hRR, if_pos e])
  have HRF : Hid (Z.all (fun x => x == 0) = false → RR = ⟨[], 15, k⟩) := hid (fun e => by rw [← hRR, if_neg (by rw [e]; decide)])
  rw [hRR]
  clear hZ hT hZl hTl hD hby3 hby4 hcut3 hp hkm hRR
  obtain ⟨d3, hd3⟩ : ∃ x, d - t = x := ⟨_, rfl⟩
  rw [hd3] at hcut3'
  clear hd3
  go_enter Tryd.func70, Tryd.ntmps70
  go_wp2_with (first
    | (go_at_call 74; refine HR.out.mono ?_; rintro e w2 ⟨rfl, hb2⟩; have HB2 := hid hb2; clear hb2)
    | (go_at_call 68; refine (HPA.out _).mono ?_; rintro e w3 ⟨rfl, hw3⟩; subst hw3))
  go_loopw [34] (fun i wr => ∃ j : Nat, j ≤ p ∧ i = .int .i64 j ∧ w3 = wr ∧ (Z.take j).all (fun x => x == 0) = true) (fun i _ => p - (intOf i).toNat)
  case atStart => exact ⟨0, Nat.zero_le _, rfl, rfl, by simp⟩
  case round =>
    obtain ⟨j, hj, rfl, rfl, hall⟩ := hrel
    by_cases hlt : j < p
    · have hji : (j : Int) < p := by omega
      obtain ⟨b5, off5, rfl, hc5⟩ := (HB3.out w3 (Mods.of_below HB2.out)).open_ (by rw [HZL.out]; omega)
      have hc := hc5 j (by rw [HZL.out]; exact hlt)
      have HS := hid (all_snoc Z j (by rw [HZL.out]; exact hlt))
      have HNT := hid (all_not Z j (by rw [HZL.out]; exact hlt))
      have HAL := hid hall
      generalize Z.getD j 0 = z at *
      clear hc5 hall
      by_cases hz : z = 0
      · subst hz
        go_wp2
        go_roundw
        case rel => exact ⟨j + 1, by omega, by go_num, by trivial, by rw [HS.out, HAL.out]; rfl⟩
        case measure => simp [intOf]; omega
      · have hzz : (z != 0) = true := by simpa using hz
        have HF := hid (HNT.out (by simpa using hz))
        go_wp2
        go_ret2
        rw [HRF.out HF.out]
        exact PadPost.err (by decide) (Mods.of_below HB2.out)
    · obtain rfl : p = j := by omega
      have hji : ¬ ((p : Int) < p) := by omega
      have hall2 : Z.all (fun x => x == 0) = true := by rw [List.take_of_length_le (by rw [HZL.out]; exact Nat.le_refl _)] at hall; exact hall
      have HA2 := hid (HRT.out hall2)
      clear hall hall2
      have hw2 : IntKind.i64.wrap ((k : Int) + ((t : Int) + p)) = (k : Int) + ((t : Int) + p) := IntWalk.i64_in _ (by omega)
      go_upto_region 13 with fail
      try simp only [Act.put]
      refine wp_region_held_drew (S := fun _ => True) (by kernel_rfl) trivial (fun hS => ?_)
      obtain ⟨v0, hv0⟩ : ∃ W, W = w3.drew := ⟨_, rfl⟩
      rw [← hv0]
      have HB0 := hid (show Below w.heap.size w v0 by rw [hv0]; exact HB2.out.drew)
      have hb0 := (HB0.out.block q (Array.getElem?_eq_some_iff.1 HBX.out).1).trans HBX.out
      have c1 := cell_of hb0 (i := 1) (v := .int .i64 k) rfl
      have f1 := froz_of hb0 1
      have h6 := setc hb0 1 (.int .i64 ((k : Int) + ((t : Int) + p)))
      have M6 := hid ((Mods.of_below (al := fun b => b = q) HB0.out).setCell q 1 (.int .i64 ((k : Int) + ((t : Int) + p))) rfl)
      have H6 := hid h6
      clear hv0 hb0 h6
      refine nany_take 0 41 (.pointer (some ⟨q, 0, none⟩)) rfl rfl (by kernel_rfl) (by kernel_rfl) (by kernel_rfl) (fun _ _ _ h => h) (Or.inl ⟨by rfl, ?_⟩) trivial ?_
      · rintro w' -
        go_simp
      simp only [List.setIfInBounds_toArray, List.set_cons_zero, List.set_cons_succ]
      refine nany_take 1 42 (.pointer (some ⟨q, 0, none⟩)) rfl rfl (by kernel_rfl) (by kernel_rfl) (by kernel_rfl) (fun _ _ _ h => h) (Or.inl ⟨by rfl, ?_⟩) trivial ?_
      · rintro w' -
        go_simp
      simp only [List.setIfInBounds_toArray, List.set_cons_zero, List.set_cons_succ]
      refine nany_take 2 43 (.pointer (some ⟨q, 1, none⟩)) rfl rfl (by kernel_rfl) (by kernel_rfl) (by kernel_rfl) (fun _ _ _ h => h) (Or.inl ⟨by rfl, ?_⟩) trivial ?_
      · rintro w' -
        go_simp
      simp only [List.setIfInBounds_toArray, List.set_cons_zero, List.set_cons_succ]
      refine nany_take 4 45 (.int .i64 t) rfl rfl (by kernel_rfl) (by kernel_rfl) (by kernel_rfl) (fun _ _ _ h => h) (Or.inl ⟨by rfl, ?_⟩) trivial ?_
      · rintro w' -
        go_simp
      simp only [List.setIfInBounds_toArray, List.set_cons_zero, List.set_cons_succ]
      refine nany_take 5 46 (.int .i64 t) rfl rfl (by kernel_rfl) (by kernel_rfl) (by kernel_rfl) (fun _ _ _ h => h) (Or.inl ⟨by rfl, ?_⟩) trivial ?_
      · rintro w' -
        go_simp
      simp only [List.setIfInBounds_toArray, List.set_cons_zero, List.set_cons_succ]
      refine nany_two 3 6 (by kernel_rfl) ?_ ?_
      · refine nop_value' 44 (v := .int .i64 k) (w' := v0) rfl (by rfl) rfl (by go_simp) ?_
        refine ⟨trivial, ?_⟩
        simp only [List.setIfInBounds_toArray, List.set_cons_zero, List.set_cons_succ]
        refine nany_one 6 (by kernel_rfl) ?_
        refine nop_callE 47 (f := 68) (args := #[.int .i64 t]) (R := fun v w' => v = .int .i64 (p : Nat) ∧ w' = v0) rfl (by rfl) rfl (by go_simp) ((HPA.out v0).mono (fun e w' h => ⟨_, h.1, rfl, h.2⟩)) ?_
        rintro v v5 ⟨rfl, hv5⟩
        subst hv5
        refine ⟨trivial, ?_⟩
        simp only [List.setIfInBounds_toArray, List.set_cons_zero, List.set_cons_succ]
        refine nany_take 7 48 (.int .i64 ((t : Int) + p)) rfl rfl (by kernel_rfl) (by kernel_rfl) (by kernel_rfl) (fun _ _ _ h => h) (Or.inl ⟨by rfl, ?_⟩) trivial ?_
        · rintro w' -
          go_simp
        simp only [List.setIfInBounds_toArray, List.set_cons_zero, List.set_cons_succ]
        refine nany_take 8 49 (.int .i64 ((k : Int) + ((t : Int) + p))) rfl rfl (by kernel_rfl) (by kernel_rfl) (by kernel_rfl) (fun _ _ _ h => h) (Or.inl ⟨by rfl, ?_⟩) trivial ?_
        · rintro w' -
          go_simp
        simp only [List.setIfInBounds_toArray, List.set_cons_zero, List.set_cons_succ]
        refine nany_take 9 50 (.pointer (some ⟨q, 0, none⟩)) rfl rfl (by kernel_rfl) (by kernel_rfl) (by kernel_rfl) (fun _ _ _ h => h) (Or.inl ⟨by rfl, ?_⟩) trivial ?_
        · rintro w' -
          go_simp
        simp only [List.setIfInBounds_toArray, List.set_cons_zero, List.set_cons_succ]
        refine nany_take 10 51 (.pointer (some ⟨q, 1, none⟩)) rfl rfl (by kernel_rfl) (by kernel_rfl) (by kernel_rfl) (fun _ _ _ h => h) (Or.inl ⟨by rfl, ?_⟩) trivial ?_
        · rintro w' -
          go_simp
        simp only [List.setIfInBounds_toArray, List.set_cons_zero, List.set_cons_succ]
        refine nany_one 11 (by kernel_rfl) ?_
        refine nop_skip (w' := v5.setCell ⟨q, 1, none⟩ (.int .i64 ((k : Int) + ((t : Int) + p)))) rfl (by rfl) rfl (by go_simp) ?_
        refine ⟨trivial, ?_⟩
        refine wpAnyH_done (by kernel_rfl) ?_ _
        have HB4' := hid (HB4.out _ M6.out)
        obtain ⟨v7, hv7⟩ : ∃ W, W = v5.setCell ⟨q, 1, none⟩ (.int .i64 ((k : Int) + ((t : Int) + p))) := ⟨_, rfl⟩
        rw [← hv7] at HB4' M6 H6 ⊢
        have HCL := hid (Clone_all v7 a4 t d T HTL.out (by omega) HB4'.out)
        clear hv7 c1 f1
        go_wp2_with (go_at_call 25; refine HCL.out.mono ?_; rintro e w8 ⟨a8, c8, rfl, hy8, hc8, hb8⟩; have HY8 := hid hy8; have HB8 := hid hb8; clear hy8 hb8)
        go_ret2
        rw [HA2.out]
        refine ⟨a8, c8, by rw [HTL.out]; rfl, HY8.out.weak (fun b hb _ => Nat.le_trans M6.out.size hb), by rw [HTL.out]; exact hc8, fun _ => ?_, M6.out.below HB8.out⟩
        refine (HH.out.turn M6.out ?_).later HB8.out
        have h9 := H6.out
        rw [HLN.out]
        have e9 : ((k + (t + p) : Nat) : Int) = (k : Int) + ((t : Int) + p) := by omega
        rw [e9]
        simpa using h9
      · refine nop_callE 47 (f := 68) (args := #[.int .i64 t]) (R := fun v w' => v = .int .i64 (p : Nat) ∧ w' = v0) rfl (by rfl) rfl (by go_simp) ((HPA.out v0).mono (fun e w' h => ⟨_, h.1, rfl, h.2⟩)) ?_
        rintro v v5 ⟨rfl, hv5⟩
        subst hv5
        refine ⟨trivial, ?_⟩
        simp only [List.setIfInBounds_toArray, List.set_cons_zero, List.set_cons_succ]
        refine nany_take 7 48 (.int .i64 ((t : Int) + p)) rfl rfl (by kernel_rfl) (by kernel_rfl) (by kernel_rfl) (fun _ _ _ h => h) (Or.inl ⟨by rfl, ?_⟩) trivial ?_
        · rintro w' -
          go_simp
        simp only [List.setIfInBounds_toArray, List.set_cons_zero, List.set_cons_succ]
        refine nany_one 3 (by kernel_rfl) ?_
        refine nop_value' 44 (v := .int .i64 k) (w' := v5) rfl (by rfl) rfl (by go_simp) ?_
        refine ⟨trivial, ?_⟩
        simp only [List.setIfInBounds_toArray, List.set_cons_zero, List.set_cons_succ]
        refine nany_take 8 49 (.int .i64 ((k : Int) + ((t : Int) + p))) rfl rfl (by kernel_rfl) (by kernel_rfl) (by kernel_rfl) (fun _ _ _ h => h) (Or.inl ⟨by rfl, ?_⟩) trivial ?_
        · rintro w' -
          go_simp
        simp only [List.setIfInBounds_toArray, List.set_cons_zero, List.set_cons_succ]
        refine nany_take 9 50 (.pointer (some ⟨q, 0, none⟩)) rfl rfl (by kernel_rfl) (by kernel_rfl) (by kernel_rfl) (fun _ _ _ h => h) (Or.inl ⟨by rfl, ?_⟩) trivial ?_
        · rintro w' -
          go_simp
        simp only [List.setIfInBounds_toArray, List.set_cons_zero, List.set_cons_succ]
        refine nany_take 10 51 (.pointer (some ⟨q, 1, none⟩)) rfl rfl (by kernel_rfl) (by kernel_rfl) (by kernel_rfl) (fun _ _ _ h => h) (Or.inl ⟨by rfl, ?_⟩) trivial ?_
        · rintro w' -
          go_simp
        simp only [List.setIfInBounds_toArray, List.set_cons_zero, List.set_cons_succ]
        refine nany_one 11 (by kernel_rfl) ?_
        refine nop_skip (w' := v5.setCell ⟨q, 1, none⟩ (.int .i64 ((k : Int) + ((t : Int) + p)))) rfl (by rfl) rfl (by go_simp) ?_
        refine ⟨trivial, ?_⟩
        refine wpAnyH_done (by kernel_rfl) ?_ _
        have HB4' := hid (HB4.out _ M6.out)
        obtain ⟨v7, hv7⟩ : ∃ W, W = v5.setCell ⟨q, 1, none⟩ (.int .i64 ((k : Int) + ((t : Int) + p))) := ⟨_, rfl⟩
        rw [← hv7] at HB4' M6 H6 ⊢
        have HCL := hid (Clone_all v7 a4 t d T HTL.out (by omega) HB4'.out)
        clear hv7 c1 f1
        go_wp2_with (go_at_call 25; refine HCL.out.mono ?_; rintro e w8 ⟨a8, c8, rfl, hy8, hc8, hb8⟩; have HY8 := hid hy8; have HB8 := hid hb8; clear hy8 hb8)
        go_ret2
        rw [HA2.out]
        refine ⟨a8, c8, by rw [HTL.out]; rfl, HY8.out.weak (fun b hb _ => Nat.le_trans M6.out.size hb), by rw [HTL.out]; exact hc8, fun _ => ?_, M6.out.below HB8.out⟩
        refine (HH.out.turn M6.out ?_).later HB8.out
        have h9 := H6.out
        rw [HLN.out]
        have e9 : ((k + (t + p) : Nat) : Int) = (k : Int) + ((t : Int) + p) := by omega
        rw [e9]
        simpa using h9
end Go.Proofs.YtbfdkbdjipiliaaDoor
