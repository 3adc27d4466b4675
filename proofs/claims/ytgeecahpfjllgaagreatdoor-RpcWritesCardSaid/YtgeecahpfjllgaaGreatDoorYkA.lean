/- An answer read. -/
import Derived.Test.YtgeecahpfjllgaaGreatDoorYjA
import Derived.OwnWalk
namespace Go.Proofs.YtgeecahpfjllgaaGreatDoor
open Go.RowKit Go.Maps
set_option linter.unusedVariables false

def tknP (r : Rd) : Int × Rd :=
  let h := rd32 r
  if h.1 = 2 then (35, (rd32 (rd32 h.2).2).2) else if h.1 = 0 then (0, h.2) else if h.1 = 1 then (34, h.2) else if h.1 = 3 then (36, h.2) else if h.1 = 4 then (33, h.2) else (15, h.2)
def rfsP (r : Rd) : Int × Rd :=
  let h := rd32 r
  if h.1 = 0 then (if (rd32 h.2).1 = 2 ∧ (rd32 (rd32 h.2).2).1 = 2 then 31 else 15, (rd32 (rd32 h.2).2).2) else if h.1 = 1 then (32, (rd32 h.2).2) else (15, h.2)
def outP (r : Rd) : Int × Rd :=
  let h := rd32 r
  if h.1 = 0 then tknP (prfR h.2).2.2 else if h.1 = 1 then rfsP h.2 else (15, h.2)
def ansQ (b : List Int) : Int × List Int × Int :=
  let x := rd32 ⟨b, 0, 0⟩
  let kd := rd32 x.2
  let o := outP kd.2
  if kd.1 ≠ 1 ∨ o.1 = 15 ∨ o.2.e ≠ 0 then (0, [], 15) else if o.1 = 0 then (x.1, b.drop o.2.k, 0) else if 0 < o.2.l.length - o.2.k then (0, [], 15) else (x.1, [], o.1)
theorem rd32_bad {r : Rd} (h : r.e ≠ 0) : rd32 r = (0, r) := by unfold rd32 ansV ansR; rw [if_neg h, if_neg h]
theorem rdBy_bad {r : Rd} (m : Int) (h : r.e ≠ 0) : rdBy m r = ([], r) := by unfold rdBy ansV ansR; rw [if_neg h, if_neg h]
theorem rd32_0 {r : Rd} (h : (rd32 r).2.e ≠ 0) : (rd32 r).1 = 0 := by
  unfold rd32 ansV ansR at *
  simp only at *
  by_cases h0 : r.e = 0
  · rw [if_pos h0] at h ⊢
    by_cases h1 : (u32P r.l r.k).e = 0
    · rw [if_pos h1] at h; exact absurd rfl h
    · rw [if_neg h1]
  · rw [if_neg h0]
theorem out_bad {r : Rd} (h : (rd32 r).2.e ≠ 0) : (outP r).2.e ≠ 0 := by
  have h0 := rd32_0 h
  unfold outP
  simp only [h0, if_true]
  have hp : (prfR (rd32 r).2).2.2 = (rd32 r).2 := by unfold prfR; rw [rd32_bad h]; simp only; rw [rdBy_bad _ h]
  rw [hp]
  unfold tknP
  rw [rd32_bad h]
  simp only
  rw [if_neg (by decide), if_pos trivial]
  exact h
theorem ans_fin (x : Int) (b : List Int) (e : Int) (r : Rd) (he : e ≠ 0) :
    (if (1 : Int) ≠ 1 ∨ e = 15 ∨ r.e ≠ 0 then ((0, [], 15) : Int × List Int × Int) else if e = 0 then (x, b.drop r.k, 0) else if 0 < r.l.length - r.k then (0, [], 15) else (x, [], e)) = if r.e ≠ 0 ∨ 0 < r.l.length - r.k ∨ e = 15 then (0, [], 15) else (x, [], e) := by
  by_cases h15 : e = 15
  · rw [if_pos (.inr (.inl h15)), if_pos (.inr (.inr h15))]
  · by_cases hr : r.e = 0
    · rw [if_neg (by simp only [not_or]; exact ⟨fun h => h rfl, h15, fun h => h hr⟩), if_neg he]
      by_cases hl : 0 < r.l.length - r.k
      · rw [if_pos hl, if_pos (.inr (.inl hl))]
      · rw [if_neg hl, if_neg (by simp only [not_or]; exact ⟨fun h => h hr, hl, h15⟩)]
    · rw [if_pos (.inr (.inr hr)), if_pos (.inl hr)]
theorem ans_q (b : List Int) (hI : ∀ x ∈ b, IsB x) : ansQ b = ansP b := by
  unfold ansQ ansP
  simp only
  obtain ⟨⟨x, r1⟩, e1⟩ : ∃ a, rd32 ⟨b, 0, 0⟩ = a := ⟨_, rfl⟩
  obtain ⟨⟨kd, r2⟩, e2⟩ : ∃ a, rd32 r1 = a := ⟨_, rfl⟩
  obtain ⟨⟨how, r3⟩, e3⟩ : ∃ a, rd32 r2 = a := ⟨_, rfl⟩
  have l1 : r1.l = b := by have := rd32_l ⟨b, 0, 0⟩; rw [e1] at this; exact this
  have l2 : r2.l = b := by have := rd32_l r1; rw [e2] at this; exact this.trans l1
  have hu : IsU how := by have := rd32_u (r := r2) (by rw [l2]; exact hI); rw [e3] at this; exact this
  unfold IsU at hu
  simp only [e1, e2, e3]
  by_cases hk : kd = 1
  · subst hk
    by_cases h3 : r3.e = 0
    · by_cases h0 : how = 0
      · subst h0
        rw [if_neg (show ¬ (r3.e ≠ 0 ∨ (1 : Int) ≠ 1 ∨ (1 : Int) < 0) by omega)]
        obtain ⟨⟨v, r4⟩, e4⟩ : ∃ a, rd32 r3 = a := ⟨_, rfl⟩
        obtain ⟨⟨vb, r5⟩, e5⟩ : ∃ a, rdBy 400 r4 = a := ⟨_, rfl⟩
        obtain ⟨⟨why, r6⟩, e6⟩ : ∃ a, rd32 r5 = a := ⟨_, rfl⟩
        have hO : outP r2 = if why = 2 then (35, (rd32 (rd32 r6).2).2) else if why = 0 then (0, r6) else if why = 1 then (34, r6) else if why = 3 then (36, r6) else if why = 4 then (33, r6) else (15, r6) := by
          unfold outP
          simp only [e3]
          rw [if_pos trivial]
          unfold tknP prfR
          simp only [e4, e5, e6]
        have hA : ansT 0 r3 = if r6.e = 0 ∧ why = 0 then (r6, 0, true) else if why = 1 then (r6, 34, false) else if why = 2 then ((rd32 (rd32 r6).2).2, 35, false) else if why = 3 then (r6, 36, false) else if why = 4 then (r6, 33, false) else (r6, 15, false) := by
          unfold ansT
          rw [if_neg (show ¬ ((0 : Int) = 1) by decide)]
          simp only [e4, e5, e6]
        rw [hO, hA]
        by_cases h6 : r6.e = 0
        · by_cases w0 : why = 0
          · subst w0
            rw [if_neg (show ¬ ((0 : Int) = 2) by decide), if_pos (show (0 : Int) = 0 from rfl), if_pos (show r6.e = 0 ∧ (0 : Int) = 0 from ⟨h6, rfl⟩)]
            simp [h6]
          · rw [if_neg (show ¬ (r6.e = 0 ∧ why = 0) from fun h => w0 h.2)]
            by_cases w1 : why = 1
            · subst w1
              simp only [if_true, if_false, show ¬ ((1 : Int) = 2) by decide, show ¬ ((1 : Int) = 0) by decide]
              exact ans_fin x b 34 r6 (by decide)
            · by_cases w2 : why = 2
              · subst w2
                simp only [if_true, if_false, show ¬ ((2 : Int) = 1) by decide]
                exact ans_fin x b 35 _ (by decide)
              · by_cases w3 : why = 3
                · subst w3
                  simp only [if_true, if_false, show ¬ ((3 : Int) = 1) by decide, show ¬ ((3 : Int) = 2) by decide, show ¬ ((3 : Int) = 0) by decide]
                  exact ans_fin x b 36 _ (by decide)
                · by_cases w4 : why = 4
                  · subst w4
                    simp only [if_true, if_false, show ¬ ((4 : Int) = 1) by decide, show ¬ ((4 : Int) = 2) by decide, show ¬ ((4 : Int) = 3) by decide, show ¬ ((4 : Int) = 0) by decide]
                    exact ans_fin x b 33 _ (by decide)
                  · simp [if_neg w0, if_neg w1, if_neg w2, if_neg w3, if_neg w4]
        · have hw0 : why = 0 := by have := rd32_0 (r := r5); rw [e6] at this; exact this h6
          subst hw0
          rw [if_neg (show ¬ (r6.e = 0 ∧ (0 : Int) = 0) from fun h => h6 h.1)]
          simp only [if_true, if_false, show ¬ ((0 : Int) = 1) by decide, show ¬ ((0 : Int) = 2) by decide, show ¬ ((0 : Int) = 3) by decide, show ¬ ((0 : Int) = 4) by decide]
          rw [if_pos (show (1 : Int) ≠ 1 ∨ (0 : Int) = 15 ∨ r6.e ≠ 0 from .inr (.inr h6)), if_neg (by decide), if_pos (.inl h6)]
      · by_cases h1 : how = 1
        · subst h1
          rw [if_neg (show ¬ (r3.e ≠ 0 ∨ (1 : Int) ≠ 1 ∨ (1 : Int) < 1) by omega)]
          obtain ⟨⟨k, r4⟩, e4⟩ : ∃ a, rd32 r3 = a := ⟨_, rfl⟩
          have hO : outP r2 = if k = 0 then (if (rd32 r4).1 = 2 ∧ (rd32 (rd32 r4).2).1 = 2 then 31 else 15, (rd32 (rd32 r4).2).2) else if k = 1 then (32, (rd32 r4).2) else (15, r4) := by
            unfold outP
            simp only [e3]
            rw [if_neg (show ¬ ((1 : Int) = 0) by decide), if_pos trivial]
            unfold rfsP
            simp only [e4]
          have hA : ansT 1 r3 = if k = 0 then ((rd32 (rd32 r4).2).2, if (rd32 r4).1 = 2 ∧ (rd32 (rd32 r4).2).1 = 2 then 31 else 15, false) else if k = 1 then ((rd32 r4).2, 32, false) else (r4, 15, false) := by
            unfold ansT
            rw [if_pos rfl]
            simp only [e4]
          rw [hO, hA]
          by_cases k0 : k = 0
          · rw [if_pos k0, if_pos k0]
            simp only [Bool.false_eq_true, if_false]
            exact ans_fin x b _ _ (by split <;> decide)
          · rw [if_neg k0, if_neg k0]
            by_cases k1 : k = 1
            · rw [if_pos k1, if_pos k1]
              simp only [Bool.false_eq_true, if_false]
              exact ans_fin x b 32 _ (by decide)
            · rw [if_neg k1, if_neg k1]
              simp
        · have hO : outP r2 = (15, r3) := by
            unfold outP
            simp only [e3]
            rw [if_neg h0, if_neg h1]
          rw [hO, if_pos (.inr (.inl rfl)), if_pos (by omega)]
    · have ho := out_bad (r := r2) (by rw [e3]; exact h3)
      rw [if_pos (.inr (.inr ho)), if_pos (.inl h3)]
  · rw [if_pos (.inl hk), if_pos (.inr (.inl hk))]
theorem idu0 (w : World) : (Instr.index 129 (.agg #[.int .i64 0, .int .i64 34, .int .i64 35, .int .i64 36, .int .i64 33]) (.int .u32 0)).run Tryz.prog w = .ok (.int .i64 0) w := by kernel_rfl
theorem idu1 (w : World) : (Instr.index 129 (.agg #[.int .i64 0, .int .i64 34, .int .i64 35, .int .i64 36, .int .i64 33]) (.int .u32 1)).run Tryz.prog w = .ok (.int .i64 34) w := by kernel_rfl
theorem idu2 (w : World) : (Instr.index 129 (.agg #[.int .i64 0, .int .i64 34, .int .i64 35, .int .i64 36, .int .i64 33]) (.int .u32 2)).run Tryz.prog w = .ok (.int .i64 35) w := by kernel_rfl
theorem idu3 (w : World) : (Instr.index 129 (.agg #[.int .i64 0, .int .i64 34, .int .i64 35, .int .i64 36, .int .i64 33]) (.int .u32 3)).run Tryz.prog w = .ok (.int .i64 36) w := by kernel_rfl
theorem idu4 (w : World) : (Instr.index 129 (.agg #[.int .i64 0, .int .i64 34, .int .i64 35, .int .i64 36, .int .i64 33]) (.int .u32 4)).run Tryz.prog w = .ok (.int .i64 33) w := by kernel_rfl
set_option maxRecDepth 100000 in
set_option maxHeartbeats 4000000 in
theorem tkn_any {w : World} {p : Nat} {r : Rd} (h : RY w 111 p r) :
    Calls Tryz.prog 58 #[.pointer (some ⟨p, 0, none⟩)] w fun e w' => e = .returned (.int .i64 (tknP r).1) ∧ RY w' 111 p (tknP r).2 ∧ Mods (fun b => b = p) w w' := by
  have i0 := idu0
  have i1 := idu1
  have i2 := idu2
  have i3 := idu3
  have i4 := idu4
  obtain ⟨⟨k, r1⟩, e1⟩ : ∃ a, rd32 r = a := ⟨_, rfl⟩
  obtain ⟨TT, hT⟩ : ∃ t, tknP r = t := ⟨_, rfl⟩
  rw [hT]
  unfold tknP at hT
  simp only [e1] at hT
  have HX := hid h
  have E1 := hid e1
  have HT := hid hT
  clear h e1 hT
  by_cases k2 : k = 2
  · subst k2
    have hT2 := HT.out
    rw [if_pos rfl] at hT2
    obtain ⟨⟨v2, r2⟩, e2⟩ : ∃ a, rd32 r1 = a := ⟨_, rfl⟩
    obtain ⟨⟨v3, r3⟩, e3⟩ : ∃ a, rd32 r2 = a := ⟨_, rfl⟩
    simp only [e2, e3] at hT2
    have E2 := hid e2
    have E3 := hid e3
    clear e2 e3
    have HT2 := hid hT2
    clear hT2 HT
    go_enter Tryz.func58, Tryz.ntmps58
    go_wp2_with (first
      | (go_at_call 26; refine (RU32_is E1.out HX.out).mono ?_; rintro e w1 ⟨rfl, hx, hm⟩; have HXw1 := hid hx; have HMw1 := hid (hm); clear hx hm E1)
      | (go_at_call 26; refine (RU32_is E2.out HXw1.out).mono ?_; rintro e w2 ⟨rfl, hx, hm⟩; have HXw2 := hid hx; have HMw2 := hid (HMw1.out.tr hm); clear hx hm E2)
      | (go_at_call 26; refine (RU32_is E3.out HXw2.out).mono ?_; rintro e w3 ⟨rfl, hx, hm⟩; have HXw3 := hid hx; have HMw3 := hid (HMw2.out.tr hm); clear hx hm E3)
      | (go_at_call 70; refine (outcomes_any _).mono ?_; rintro e wo ⟨rfl, hbo⟩; have HBO := hid hbo; clear hbo))
    go_ret
    rw [← HT2.out]
    exact ⟨rfl, RX.later HXw3.out HBO.out, HMw3.out.below HBO.out⟩
  · have hk2 : (k == 2) = false := by simpa using k2
    by_cases k0 : k = 0
    · subst k0
      have hT2 := HT.out
      rw [if_neg (show ¬ ((0 : Int) = 2) by decide), if_pos rfl] at hT2
      have HT2 := hid hT2
      clear hT2 HT
      go_enter Tryz.func58, Tryz.ntmps58
      go_wp2_with (first
        | (go_at_call 26; refine (RU32_is E1.out HX.out).mono ?_; rintro e w1 ⟨rfl, hx, hm⟩; have HXw1 := hid hx; have HMw1 := hid (hm); clear hx hm E1)
        | (go_at_call 70; refine (outcomes_any _).mono ?_; rintro e wo ⟨rfl, hbo⟩; have HBO := hid hbo; clear hbo))
      go_ret
      rw [← HT2.out]
      exact ⟨rfl, RX.later HXw1.out HBO.out, HMw1.out.below HBO.out⟩
    · have hk0 : (k == 0) = false := by simpa using k0
      by_cases k1 : k = 1
      · subst k1
        have hT2 := HT.out
        rw [if_neg (show ¬ ((1 : Int) = 2) by decide), if_neg (show ¬ ((1 : Int) = 0) by decide), if_pos rfl] at hT2
        have HT2 := hid hT2
        clear hT2 HT
        go_enter Tryz.func58, Tryz.ntmps58
        go_wp2_with (first
          | (go_at_call 26; refine (RU32_is E1.out HX.out).mono ?_; rintro e w1 ⟨rfl, hx, hm⟩; have HXw1 := hid hx; have HMw1 := hid (hm); clear hx hm E1)
          | (go_at_call 70; refine (outcomes_any _).mono ?_; rintro e wo ⟨rfl, hbo⟩; have HBO := hid hbo; clear hbo))
        go_ret
        rw [← HT2.out]
        exact ⟨rfl, RX.later HXw1.out HBO.out, HMw1.out.below HBO.out⟩
      · have hk1 : (k == 1) = false := by simpa using k1
        by_cases k3 : k = 3
        · subst k3
          have hT2 := HT.out
          rw [if_neg (show ¬ ((3 : Int) = 2) by decide), if_neg (show ¬ ((3 : Int) = 0) by decide), if_neg (show ¬ ((3 : Int) = 1) by decide), if_pos rfl] at hT2
          have HT2 := hid hT2
          clear hT2 HT
          go_enter Tryz.func58, Tryz.ntmps58
          go_wp2_with (first
            | (go_at_call 26; refine (RU32_is E1.out HX.out).mono ?_; rintro e w1 ⟨rfl, hx, hm⟩; have HXw1 := hid hx; have HMw1 := hid (hm); clear hx hm E1)
            | (go_at_call 70; refine (outcomes_any _).mono ?_; rintro e wo ⟨rfl, hbo⟩; have HBO := hid hbo; clear hbo))
          go_ret
          rw [← HT2.out]
          exact ⟨rfl, RX.later HXw1.out HBO.out, HMw1.out.below HBO.out⟩
        · have hk3 : (k == 3) = false := by simpa using k3
          by_cases k4 : k = 4
          · subst k4
            have hT2 := HT.out
            rw [if_neg (show ¬ ((4 : Int) = 2) by decide), if_neg (show ¬ ((4 : Int) = 0) by decide), if_neg (show ¬ ((4 : Int) = 1) by decide), if_neg (show ¬ ((4 : Int) = 3) by decide), if_pos rfl] at hT2
            have HT2 := hid hT2
            clear hT2 HT
            go_enter Tryz.func58, Tryz.ntmps58
            go_wp2_with (first
              | (go_at_call 26; refine (RU32_is E1.out HX.out).mono ?_; rintro e w1 ⟨rfl, hx, hm⟩; have HXw1 := hid hx; have HMw1 := hid (hm); clear hx hm E1)
              | (go_at_call 70; refine (outcomes_any _).mono ?_; rintro e wo ⟨rfl, hbo⟩; have HBO := hid hbo; clear hbo))
            go_ret
            rw [← HT2.out]
            exact ⟨rfl, RX.later HXw1.out HBO.out, HMw1.out.below HBO.out⟩
          · have hk4 : (k == 4) = false := by simpa using k4
            have hT2 := HT.out
            rw [if_neg k2, if_neg k0, if_neg k1, if_neg k3, if_neg k4] at hT2
            have HT2 := hid hT2
            clear hT2 HT k2 k0 k1 k3 k4
            go_enter Tryz.func58, Tryz.ntmps58
            go_wp2_with (first
              | (go_at_call 26; refine (RU32_is E1.out HX.out).mono ?_; rintro e w1 ⟨rfl, hx, hm⟩; have HXw1 := hid hx; have HMw1 := hid (hm); clear hx hm E1))
            go_ret
            rw [← HT2.out]
            exact ⟨rfl, HXw1.out, HMw1.out⟩
set_option maxRecDepth 100000 in
set_option maxHeartbeats 4000000 in
theorem rfs_any {w : World} {p : Nat} {r : Rd} (h : RY w 111 p r) :
    Calls Tryz.prog 59 #[.pointer (some ⟨p, 0, none⟩)] w fun e w' => e = .returned (.int .i64 (rfsP r).1) ∧ RY w' 111 p (rfsP r).2 ∧ Mods (fun b => b = p) w w' := by
  obtain ⟨⟨k, r1⟩, e1⟩ : ∃ a, rd32 r = a := ⟨_, rfl⟩
  obtain ⟨⟨v2, r2⟩, e2⟩ : ∃ a, rd32 r1 = a := ⟨_, rfl⟩
  obtain ⟨⟨v3, r3⟩, e3⟩ : ∃ a, rd32 r2 = a := ⟨_, rfl⟩
  obtain ⟨TT, hT⟩ : ∃ t, rfsP r = t := ⟨_, rfl⟩
  rw [hT]
  unfold rfsP at hT
  simp only [e1, e2, e3] at hT
  have HX := hid h
  have E1 := hid e1
  have E2 := hid e2
  have E3 := hid e3
  have HT := hid hT
  clear h e1 e2 e3 hT
  by_cases k0 : k = 0
  · subst k0
    by_cases h2 : v2 = 2
    · subst h2
      by_cases h3 : v3 = 2
      · subst h3
        have hT2 := HT.out
        rw [if_pos rfl, if_pos ⟨rfl, rfl⟩] at hT2
        have HT2 := hid hT2
        clear hT2 HT 
        go_enter Tryz.func59, Tryz.ntmps59
        go_wp2_with (first
          | (go_at_call 26; refine (RU32_is E1.out HX.out).mono ?_; rintro e w1 ⟨rfl, hx, hm⟩; have HXw1 := hid hx; have HMw1 := hid (hm); clear hx hm E1)
          | (go_at_call 26; refine (RU32_is E2.out HXw1.out).mono ?_; rintro e w2 ⟨rfl, hx, hm⟩; have HXw2 := hid hx; have HMw2 := hid (HMw1.out.tr hm); clear hx hm E2)
          | (go_at_call 26; refine (RU32_is E3.out HXw2.out).mono ?_; rintro e w3 ⟨rfl, hx, hm⟩; have HXw3 := hid hx; have HMw3 := hid (HMw2.out.tr hm); clear hx hm E3))
        go_ret
        rw [← HT2.out]
        exact ⟨rfl, HXw3.out, HMw3.out⟩
      · have hb : (v3 == 2) = false := by simpa using h3
        have hT2 := HT.out
        rw [if_pos rfl, if_neg (fun h => h3 h.2)] at hT2
        have HT2 := hid hT2
        clear hT2 HT h3
        go_enter Tryz.func59, Tryz.ntmps59
        go_wp2_with (first
          | (go_at_call 26; refine (RU32_is E1.out HX.out).mono ?_; rintro e w1 ⟨rfl, hx, hm⟩; have HXw1 := hid hx; have HMw1 := hid (hm); clear hx hm E1)
          | (go_at_call 26; refine (RU32_is E2.out HXw1.out).mono ?_; rintro e w2 ⟨rfl, hx, hm⟩; have HXw2 := hid hx; have HMw2 := hid (HMw1.out.tr hm); clear hx hm E2)
          | (go_at_call 26; refine (RU32_is E3.out HXw2.out).mono ?_; rintro e w3 ⟨rfl, hx, hm⟩; have HXw3 := hid hx; have HMw3 := hid (HMw2.out.tr hm); clear hx hm E3))
        go_ret
        rw [← HT2.out]
        exact ⟨rfl, HXw3.out, HMw3.out⟩
    · have hb : (v2 == 2) = false := by simpa using h2
      have hT2 := HT.out
      rw [if_pos rfl, if_neg (fun h => h2 h.1)] at hT2
      have HT2 := hid hT2
      clear hT2 HT h2
      go_enter Tryz.func59, Tryz.ntmps59
      go_wp2_with (first
        | (go_at_call 26; refine (RU32_is E1.out HX.out).mono ?_; rintro e w1 ⟨rfl, hx, hm⟩; have HXw1 := hid hx; have HMw1 := hid (hm); clear hx hm E1)
        | (go_at_call 26; refine (RU32_is E2.out HXw1.out).mono ?_; rintro e w2 ⟨rfl, hx, hm⟩; have HXw2 := hid hx; have HMw2 := hid (HMw1.out.tr hm); clear hx hm E2)
        | (go_at_call 26; refine (RU32_is E3.out HXw2.out).mono ?_; rintro e w3 ⟨rfl, hx, hm⟩; have HXw3 := hid hx; have HMw3 := hid (HMw2.out.tr hm); clear hx hm E3))
      go_ret
      rw [← HT2.out]
      exact ⟨rfl, HXw3.out, HMw3.out⟩
  · by_cases k1 : k = 1
    · subst k1
      have hT2 := HT.out
      rw [if_neg (show ¬ ((1 : Int) = 0) by decide), if_pos rfl] at hT2
      have HT2 := hid hT2
      clear hT2 HT k0
      go_enter Tryz.func59, Tryz.ntmps59
      go_wp2_with (first
        | (go_at_call 26; refine (RU32_is E1.out HX.out).mono ?_; rintro e w1 ⟨rfl, hx, hm⟩; have HXw1 := hid hx; have HMw1 := hid (hm); clear hx hm E1)
        | (go_at_call 26; refine (RU32_is E2.out HXw1.out).mono ?_; rintro e w2 ⟨rfl, hx, hm⟩; have HXw2 := hid hx; have HMw2 := hid (HMw1.out.tr hm); clear hx hm E2))
      go_ret
      rw [← HT2.out]
      exact ⟨rfl, HXw2.out, HMw2.out⟩
    · have hb0 : (k == 0) = false := by simpa using k0
      have hb1 : (k == 1) = false := by simpa using k1
      have hT2 := HT.out
      rw [if_neg k0, if_neg k1] at hT2
      have HT2 := hid hT2
      clear hT2 HT k0 k1
      go_enter Tryz.func59, Tryz.ntmps59
      go_wp2_with (first
        | (go_at_call 26; refine (RU32_is E1.out HX.out).mono ?_; rintro e w1 ⟨rfl, hx, hm⟩; have HXw1 := hid hx; have HMw1 := hid (hm); clear hx hm E1))
      go_ret
      rw [← HT2.out]
      exact ⟨rfl, HXw1.out, HMw1.out⟩
set_option maxRecDepth 100000 in
set_option maxHeartbeats 4000000 in
theorem out_any {w : World} {p : Nat} {r : Rd} (h : RY w 111 p r) :
    Calls Tryz.prog 27 #[.pointer (some ⟨p, 0, none⟩)] w fun e w' => e = .returned (.int .i64 (outP r).1) ∧ RY w' 111 p (outP r).2 ∧ Mods (fun b => b = p) w w' := by
  obtain ⟨⟨k, r1⟩, e1⟩ : ∃ a, rd32 r = a := ⟨_, rfl⟩
  obtain ⟨TT, hT⟩ : ∃ t, outP r = t := ⟨_, rfl⟩
  rw [hT]
  unfold outP at hT
  simp only [e1] at hT
  have HX := hid h
  have E1 := hid e1
  have HT := hid hT
  clear h e1 hT
  by_cases k0 : k = 0
  · subst k0
    have hT2 := HT.out
    rw [if_pos rfl] at hT2
    obtain ⟨⟨pk, pv, r2⟩, e2⟩ : ∃ a, prfR r1 = a := ⟨_, rfl⟩
    obtain ⟨vl, hvl⟩ : ∃ m, pv.length = m := ⟨_, rfl⟩
    have E2 := hid e2
    have HVL := hid hvl
    rw [e2] at hT2
    simp only at hT2
    clear e2 hvl
    have HT2 := hid hT2
    clear hT2 HT 
    go_enter Tryz.func27, Tryz.ntmps27
    go_wp2_with (first
      | (go_at_call 26; refine (RU32_is E1.out HX.out).mono ?_; rintro e w1 ⟨rfl, hx, hm⟩; have HXw1 := hid hx; have HMw1 := hid (hm); clear hx hm E1)
      | (go_at_call 57; refine (readProof_is E2.out HVL.out HXw1.out).mono ?_; rintro e w2 ⟨x, rfl, a, c, rfl, _, _, hx, hm⟩; have HXw2 := hid hx; have HMw2 := hid (HMw1.out.tr hm); clear hx hm E2)
      | (go_at_call 58; refine (tkn_any HXw2.out).mono ?_; rintro e w3 ⟨rfl, hx, hm⟩; have HXw3 := hid hx; have HMw3 := hid (HMw2.out.tr hm); clear hx hm))
    go_ret
    rw [← HT2.out]
    exact ⟨rfl, HXw3.out, HMw3.out⟩
  · by_cases k1 : k = 1
    · subst k1
      have hT2 := HT.out
      rw [if_neg (show ¬ ((1 : Int) = 0) by decide), if_pos rfl] at hT2
      have HT2 := hid hT2
      clear hT2 HT k0
      go_enter Tryz.func27, Tryz.ntmps27
      go_wp2_with (first
        | (go_at_call 26; refine (RU32_is E1.out HX.out).mono ?_; rintro e w1 ⟨rfl, hx, hm⟩; have HXw1 := hid hx; have HMw1 := hid (hm); clear hx hm E1)
        | (go_at_call 59; refine (rfs_any HXw1.out).mono ?_; rintro e w3 ⟨rfl, hx, hm⟩; have HXw3 := hid hx; have HMw3 := hid (HMw1.out.tr hm); clear hx hm))
      go_ret
      rw [← HT2.out]
      exact ⟨rfl, HXw3.out, HMw3.out⟩
    · have hb0 : (k == 0) = false := by simpa using k0
      have hb1 : (k == 1) = false := by simpa using k1
      have hT2 := HT.out
      rw [if_neg k0, if_neg k1] at hT2
      have HT2 := hid hT2
      clear hT2 HT k0 k1
      go_enter Tryz.func27, Tryz.ntmps27
      go_wp2_with (first
        | (go_at_call 26; refine (RU32_is E1.out HX.out).mono ?_; rintro e w1 ⟨rfl, hx, hm⟩; have HXw1 := hid hx; have HMw1 := hid (hm); clear hx hm E1))
      go_ret
      rw [← HT2.out]
      exact ⟨rfl, HXw1.out, HMw1.out⟩
theorem outP_l (r : Rd) : (outP r).2.l = r.l := by
  have ht : ∀ r, (tknP r).2.l = r.l := fun r => by
    unfold tknP
    simp only
    split
    · simp only; rw [rd32_l, rd32_l, rd32_l]
    · split
      · exact rd32_l r
      · split
        · exact rd32_l r
        · split
          · exact rd32_l r
          · split <;> exact rd32_l r
  have hr : ∀ r, (rfsP r).2.l = r.l := fun r => by
    unfold rfsP
    simp only
    split
    · simp only; rw [rd32_l, rd32_l, rd32_l]
    · split
      · simp only; rw [rd32_l, rd32_l]
      · exact rd32_l r
  unfold outP
  simp only
  split
  · rw [ht, prfR_l, rd32_l]
  · split
    · rw [hr, rd32_l]
    · exact rd32_l r
/-- What Answer leaves. -/
def AnsPost (w : World) (R : Int × List Int × Int) (e : Ending) (w' : World) : Prop := ∃ a n c, e = .returned (.tuple #[.int .u32 R.1, .slice a n c, .int .i64 R.2.2]) ∧ By w' (New w) a R.2.1 ∧ R.2.1.length = n ∧ n ≤ c ∧ Below w.heap.size w w'
theorem AnsPost.bad {w w' : World} (hb : Below w.heap.size w w') : AnsPost w (0, [], 15) (.returned (.tuple #[.int .u32 0, .slice none 0 0, .int .i64 15])) w' := ⟨none, 0, 0, rfl, By.nil _ _ _, rfl, Nat.le_refl _, hb⟩
set_option maxRecDepth 100000 in
set_option maxHeartbeats 8000000 in
theorem Answer_any (w : World) (a : Option Addr) (n c : Nat) (b : List Int) (hn : b.length = n) (hnc : n ≤ c) (hl : n ≤ 900000) (hb : Bytes w a b) :
    Calls Tryz.prog 9 #[.slice a n c] w fun e w' => AnsPost w (ansP b) e w' := by
  rw [← ans_q b hb.isB]
  have HNR := hid (NewReader_any w a n c b hn hl hb)
  obtain ⟨⟨x, r1⟩, e1⟩ : ∃ a, rd32 ⟨b, 0, 0⟩ = a := ⟨_, rfl⟩
  obtain ⟨⟨kd, r2⟩, e2⟩ : ∃ a, rd32 r1 = a := ⟨_, rfl⟩
  obtain ⟨⟨oe, r3⟩, e3⟩ : ∃ a, outP r2 = a := ⟨_, rfl⟩
  obtain ⟨AA, hA⟩ : ∃ t, ansQ b = t := ⟨_, rfl⟩
  rw [hA]
  unfold ansQ at hA
  simp only [e1, e2, e3] at hA
  obtain ⟨EE, hEE⟩ : ∃ e, r3.e = e := ⟨_, rfl⟩
  obtain ⟨LL, hLL⟩ : ∃ e, r3.l.length - r3.k = e := ⟨_, rfl⟩
  obtain ⟨KK, hKK⟩ : ∃ e, r3.k = e := ⟨_, rfl⟩
  rw [hEE, hLL, hKK] at hA
  have HA := hid hA
  have E1 := hid e1
  have E2 := hid e2
  have HOU : Hid (∀ W p, RY W 111 p r2 → Calls Tryz.prog 27 #[.pointer (some ⟨p, 0, none⟩)] W fun e w' => e = .returned (.int .i64 oe) ∧ RY w' 111 p r3 ∧ Mods (fun b => b = p) W w') := hid (fun W p h => by have := out_any h; rw [e3] at this; exact this)
  have HEE := hid hEE
  have HLL := hid hLL
  have HKK := hid hKK
  have l3 : r3.l = b := by
    have l1 : r1.l = b := by have := rd32_l ⟨b, 0, 0⟩; rw [e1] at this; exact this
    have l2 : r2.l = b := by have := rd32_l r1; rw [e2] at this; exact this.trans l1
    have := outP_l r2; rw [e3] at this; exact this.trans l2
  have HL3 := hid l3
  have HBY := hid hb
  have HNN := hid hn
  have HNC := hid hnc
  clear hA e1 e2 e3 hEE hLL hKK hb l3 hn hnc
  by_cases hk : kd = 1
  · subst hk
    by_cases h15 : oe = 15
    · subst h15
      have hA2 := HA.out
      rw [if_pos (.inr (.inl rfl))] at hA2
      have HA2 := hid hA2
      clear hA2 HA 
      go_enter Tryz.func9, Tryz.ntmps9
      go_wp2_with (first
        | (go_at_call 25
           refine HNR.out.mono ?_
           rintro e w1 ⟨p, rfl, hp1, hx, hp2, hb1, hp3⟩
           have HX := hid (hx (fun b => p ≤ b) (Nat.le_refl _) (fun b _ h1 h2 => by omega))
           have HB1 := hid hb1
           have HP1 := hid hp1
           clear hx hb1 hp1 hp2 hp3 HNR)
        | (go_at_call 26; refine (RU32_is E1.out HX.out).mono ?_; rintro e w2 ⟨rfl, hx, hm⟩; have HXw2 := hid hx; have HMw2 := hid hm; clear hx hm E1)
        | (go_at_call 26; refine (RU32_is E2.out HXw2.out).mono ?_; rintro e w3 ⟨rfl, hx, hm⟩; have HXw3 := hid hx; have HMw3 := hid (HMw2.out.tr hm); clear hx hm E2)
        | (go_at_call 27
           refine (HOU.out _ _ HXw3.out).mono ?_
           rintro e w4 ⟨rfl, hx, hm⟩
           have HX4 := hid hx
           have hm4 := HMw3.out.tr hm
           have HB4 := hid (hm4.to_below HB1.out HB1.out.size (fun b hb => by have h : b = p := hb; have := HP1.out; omega))
           have HER := hid (RErr_any hx)
           rw [HEE.out] at HER
           have HLF := hid (RLeft_any hx)
           rw [HLL.out] at HLF
           have HAT := hid (RAt_any hx)
           rw [HKK.out] at HAT
           clear hx hm hm4 HOU))
      go_ret3
      rw [← HA2.out]
      exact AnsPost.bad HB4.out
    · have hb15 : (oe == 15) = false := by simpa using h15
      by_cases h0 : EE = 0
      · subst h0
        by_cases ho : oe = 0
        · subst ho
          have hA2 := HA.out
          rw [if_neg (show ¬ ((1 : Int) ≠ 1 ∨ (0 : Int) = 15 ∨ (0 : Int) ≠ 0) by decide), if_pos rfl] at hA2
          have HA2 := hid hA2
          clear hA2 HA 
          go_enter Tryz.func9, Tryz.ntmps9
          go_wp2_with (first
            | (go_at_call 25
               refine HNR.out.mono ?_
               rintro e w1 ⟨p, rfl, hp1, hx, hp2, hb1, hp3⟩
               have HX := hid (hx (fun b => p ≤ b) (Nat.le_refl _) (fun b _ h1 h2 => by omega))
               have HB1 := hid hb1
               have HP1 := hid hp1
               clear hx hb1 hp1 hp2 hp3 HNR)
            | (go_at_call 26; refine (RU32_is E1.out HX.out).mono ?_; rintro e w2 ⟨rfl, hx, hm⟩; have HXw2 := hid hx; have HMw2 := hid hm; clear hx hm E1)
            | (go_at_call 26; refine (RU32_is E2.out HXw2.out).mono ?_; rintro e w3 ⟨rfl, hx, hm⟩; have HXw3 := hid hx; have HMw3 := hid (HMw2.out.tr hm); clear hx hm E2)
            | (go_at_call 27
               refine (HOU.out _ _ HXw3.out).mono ?_
               rintro e w4 ⟨rfl, hx, hm⟩
               have HX4 := hid hx
               have hm4 := HMw3.out.tr hm
               have HB4 := hid (hm4.to_below HB1.out HB1.out.size (fun b hb => by have h : b = p := hb; have := HP1.out; omega))
               have HER := hid (RErr_any hx)
               rw [HEE.out] at HER
               have HLF := hid (RLeft_any hx)
               rw [HLL.out] at HLF
               have HAT := hid (RAt_any hx)
               rw [HKK.out] at HAT
               clear hx hm hm4 HOU)
            | (go_at_call 28; refine HER.out.mono ?_; rintro e w5 ⟨rfl, hw5⟩; rw [hw5]; clear hw5 HER)
            | (go_at_call 30; refine HAT.out.mono ?_; rintro e w6 ⟨rfl, hw6⟩; rw [hw6]; clear hw6 HAT; have hkl : KK ≤ n := (by have h1 := HX4.out.hk; rw [HL3.out, HKK.out] at h1; have := HNN.out; omega); obtain ⟨a7, hcut0, hby7⟩ := cut_l a n c KK hkl HNC.out; have HBD := hid ((hby7 w b HNN.out HBY.out).later HB4.out); obtain ⟨nb, hnb⟩ : ∃ m, n - KK = m := ⟨_, rfl⟩; obtain ⟨ck, hck⟩ : ∃ m, c - KK = m := ⟨_, rfl⟩; rw [hnb, hck] at hcut0; have hcut := hcut0; have HNB : Hid ((b.drop KK).length = nb) := hid (by rw [List.length_drop, HNN.out]; exact hnb); have HCL := hid (Clone_all w4 a7 nb ck (b.drop KK) HNB.out (by omega) HBD.out); clear hkl hby7 hnb hck hcut0)
            | (go_at_call 29; refine HCL.out.mono ?_; rintro e w7 ⟨a8, c8, rfl, hy8, hc8, hb8⟩; have HY8 := hid hy8; have HC8 := hid hc8; have HB8 := hid hb8; clear hy8 hc8 hb8 HCL))
          go_ret3
          rw [← HA2.out]
          exact ⟨a8, nb, c8, rfl, HY8.out.weak (fun b hb _ => Nat.le_trans HB4.out.size hb), HNB.out, HC8.out, HB4.out.trans (HB8.out.mono HB4.out.size)⟩
        · have hbo : (oe == 0) = false := by simpa using ho
          by_cases hL : 0 < LL
          · have hLi : (0 : Int) < (LL : Nat) := by omega
            have hA2 := HA.out
            rw [if_neg (fun h => by rcases h with h | h | h; exact h rfl; exact h15 h; exact h rfl), if_neg ho, if_pos hL] at hA2
            have HA2 := hid hA2
            clear hA2 HA h15 ho hL
            go_enter Tryz.func9, Tryz.ntmps9
            go_wp2_with (first
              | (go_at_call 25
                 refine HNR.out.mono ?_
                 rintro e w1 ⟨p, rfl, hp1, hx, hp2, hb1, hp3⟩
                 have HX := hid (hx (fun b => p ≤ b) (Nat.le_refl _) (fun b _ h1 h2 => by omega))
                 have HB1 := hid hb1
                 have HP1 := hid hp1
                 clear hx hb1 hp1 hp2 hp3 HNR)
              | (go_at_call 26; refine (RU32_is E1.out HX.out).mono ?_; rintro e w2 ⟨rfl, hx, hm⟩; have HXw2 := hid hx; have HMw2 := hid hm; clear hx hm E1)
              | (go_at_call 26; refine (RU32_is E2.out HXw2.out).mono ?_; rintro e w3 ⟨rfl, hx, hm⟩; have HXw3 := hid hx; have HMw3 := hid (HMw2.out.tr hm); clear hx hm E2)
              | (go_at_call 27
                 refine (HOU.out _ _ HXw3.out).mono ?_
                 rintro e w4 ⟨rfl, hx, hm⟩
                 have HX4 := hid hx
                 have hm4 := HMw3.out.tr hm
                 have HB4 := hid (hm4.to_below HB1.out HB1.out.size (fun b hb => by have h : b = p := hb; have := HP1.out; omega))
                 have HER := hid (RErr_any hx)
                 rw [HEE.out] at HER
                 have HLF := hid (RLeft_any hx)
                 rw [HLL.out] at HLF
                 have HAT := hid (RAt_any hx)
                 rw [HKK.out] at HAT
                 clear hx hm hm4 HOU)
              | (go_at_call 28; refine HER.out.mono ?_; rintro e w5 ⟨rfl, hw5⟩; rw [hw5]; clear hw5 HER)
              | (go_at_call 31; refine HLF.out.mono ?_; rintro e w6 ⟨rfl, hb6⟩; have HB6 := hid (HB4.out.trans (hb6.mono HB4.out.size)); clear hb6 HLF))
            go_ret3
            rw [← HA2.out]
            exact AnsPost.bad HB6.out
          · obtain rfl : LL = 0 := by omega
            have hA2 := HA.out
            rw [if_neg (fun h => by rcases h with h | h | h; exact h rfl; exact h15 h; exact h rfl), if_neg ho, if_neg hL] at hA2
            have HA2 := hid hA2
            clear hA2 HA h15 ho hL
            go_enter Tryz.func9, Tryz.ntmps9
            go_wp2_with (first
              | (go_at_call 25
                 refine HNR.out.mono ?_
                 rintro e w1 ⟨p, rfl, hp1, hx, hp2, hb1, hp3⟩
                 have HX := hid (hx (fun b => p ≤ b) (Nat.le_refl _) (fun b _ h1 h2 => by omega))
                 have HB1 := hid hb1
                 have HP1 := hid hp1
                 clear hx hb1 hp1 hp2 hp3 HNR)
              | (go_at_call 26; refine (RU32_is E1.out HX.out).mono ?_; rintro e w2 ⟨rfl, hx, hm⟩; have HXw2 := hid hx; have HMw2 := hid hm; clear hx hm E1)
              | (go_at_call 26; refine (RU32_is E2.out HXw2.out).mono ?_; rintro e w3 ⟨rfl, hx, hm⟩; have HXw3 := hid hx; have HMw3 := hid (HMw2.out.tr hm); clear hx hm E2)
              | (go_at_call 27
                 refine (HOU.out _ _ HXw3.out).mono ?_
                 rintro e w4 ⟨rfl, hx, hm⟩
                 have HX4 := hid hx
                 have hm4 := HMw3.out.tr hm
                 have HB4 := hid (hm4.to_below HB1.out HB1.out.size (fun b hb => by have h : b = p := hb; have := HP1.out; omega))
                 have HER := hid (RErr_any hx)
                 rw [HEE.out] at HER
                 have HLF := hid (RLeft_any hx)
                 rw [HLL.out] at HLF
                 have HAT := hid (RAt_any hx)
                 rw [HKK.out] at HAT
                 clear hx hm hm4 HOU)
              | (go_at_call 28; refine HER.out.mono ?_; rintro e w5 ⟨rfl, hw5⟩; rw [hw5]; clear hw5 HER)
              | (go_at_call 31; refine HLF.out.mono ?_; rintro e w6 ⟨rfl, hb6⟩; have HB6 := hid (HB4.out.trans (hb6.mono HB4.out.size)); clear hb6 HLF))
            go_ret3
            rw [← HA2.out]
            exact ⟨none, 0, 0, rfl, By.nil _ _ _, rfl, Nat.le_refl _, HB6.out⟩
      · have hbE : (EE != 0) = true := by simpa using h0
        have hA2 := HA.out
        rw [if_pos (.inr (.inr h0))] at hA2
        have HA2 := hid hA2
        clear hA2 HA h0 h15
        go_enter Tryz.func9, Tryz.ntmps9
        go_wp2_with (first
          | (go_at_call 25
             refine HNR.out.mono ?_
             rintro e w1 ⟨p, rfl, hp1, hx, hp2, hb1, hp3⟩
             have HX := hid (hx (fun b => p ≤ b) (Nat.le_refl _) (fun b _ h1 h2 => by omega))
             have HB1 := hid hb1
             have HP1 := hid hp1
             clear hx hb1 hp1 hp2 hp3 HNR)
          | (go_at_call 26; refine (RU32_is E1.out HX.out).mono ?_; rintro e w2 ⟨rfl, hx, hm⟩; have HXw2 := hid hx; have HMw2 := hid hm; clear hx hm E1)
          | (go_at_call 26; refine (RU32_is E2.out HXw2.out).mono ?_; rintro e w3 ⟨rfl, hx, hm⟩; have HXw3 := hid hx; have HMw3 := hid (HMw2.out.tr hm); clear hx hm E2)
          | (go_at_call 27
             refine (HOU.out _ _ HXw3.out).mono ?_
             rintro e w4 ⟨rfl, hx, hm⟩
             have HX4 := hid hx
             have hm4 := HMw3.out.tr hm
             have HB4 := hid (hm4.to_below HB1.out HB1.out.size (fun b hb => by have h : b = p := hb; have := HP1.out; omega))
             have HER := hid (RErr_any hx)
             rw [HEE.out] at HER
             have HLF := hid (RLeft_any hx)
             rw [HLL.out] at HLF
             have HAT := hid (RAt_any hx)
             rw [HKK.out] at HAT
             clear hx hm hm4 HOU)
          | (go_at_call 28; refine HER.out.mono ?_; rintro e w5 ⟨rfl, hw5⟩; rw [hw5]; clear hw5 HER))
        go_ret3
        rw [← HA2.out]
        exact AnsPost.bad HB4.out
  · have hbk : (kd != 1) = true := by simpa using hk
    have hA2 := HA.out
    rw [if_pos (.inl hk)] at hA2
    have HA2 := hid hA2
    clear hA2 HA hk
    go_enter Tryz.func9, Tryz.ntmps9
    go_wp2_with (first
      | (go_at_call 25
         refine HNR.out.mono ?_
         rintro e w1 ⟨p, rfl, hp1, hx, hp2, hb1, hp3⟩
         have HX := hid (hx (fun b => p ≤ b) (Nat.le_refl _) (fun b _ h1 h2 => by omega))
         have HB1 := hid hb1
         have HP1 := hid hp1
         clear hx hb1 hp1 hp2 hp3 HNR)
      | (go_at_call 26; refine (RU32_is E1.out HX.out).mono ?_; rintro e w2 ⟨rfl, hx, hm⟩; have HXw2 := hid hx; have HMw2 := hid hm; clear hx hm E1)
      | (go_at_call 26; refine (RU32_is E2.out HXw2.out).mono ?_; rintro e w3 ⟨rfl, hx, hm⟩; have HXw3 := hid hx; have HMw3 := hid (HMw2.out.tr hm); clear hx hm E2)
      | (go_at_call 27
         refine (HOU.out _ _ HXw3.out).mono ?_
         rintro e w4 ⟨rfl, hx, hm⟩
         have HX4 := hid hx
         have hm4 := HMw3.out.tr hm
         have HB4 := hid (hm4.to_below HB1.out HB1.out.size (fun b hb => by have h : b = p := hb; have := HP1.out; omega))
         have HER := hid (RErr_any hx)
         rw [HEE.out] at HER
         have HLF := hid (RLeft_any hx)
         rw [HLL.out] at HLF
         have HAT := hid (RAt_any hx)
         rw [HKK.out] at HAT
         clear hx hm hm4 HOU))
    go_ret3
    rw [← HA2.out]
    exact AnsPost.bad HB4.out
end Go.Proofs.YtgeecahpfjllgaaGreatDoor
