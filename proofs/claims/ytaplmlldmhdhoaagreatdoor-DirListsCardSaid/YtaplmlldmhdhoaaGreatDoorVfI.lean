/- VfH, VfI in one text. -/
import Derived.Test.YtaplmlldmhdhoaaGreatDoorVfE
import Derived.Test.YtaplmlldmhdhoaaGreatDoorVeC
/- A view of a new volume: what is taken, as two rows of answers; the example. -/
namespace Go.Proofs.YtaplmlldmhdhoaaGreatDoor
open Go.RowKit Go.Maps
set_option linter.unusedVariables false

def rowsN (N : Nat) : Nat := (N + 4095) / 4096
/-- A view over a base that has all: FB which blocks are taken, FI which inodes. -/
structure Lv (w : World) (pv : Nat) (S : Nat → Prop) (N : Nat) (i : Int) (n : Nat) (FB FI : Nat → Bool) : Prop where
  ex : ∃ q S0 T P bc, Vw w pv S0 N i (baseV q) n P ∧ Bs w q T N bc (fun _ => false) ∧ (∀ g, S0 g → S g) ∧ (∀ g, T g → S g) ∧ (∀ g, T g → ¬ S0 g) ∧ (∀ r, r < rowsN N → ct P bc (69 + r) = bitB (rowF FB r)) ∧ ct P bc 68 = bitB FI
  pl : PlanOk N i
  sb : ∀ g, S g → g < w.heap.size
variable {w w' : World} {pv n N : Nat} {S S' : Nat → Prop} {i : Int} {FB FI : Nat → Bool}
theorem Lv.keep (h : Lv w pv S N i n FB FI) (hk : ∀ g, S g → g < w.heap.size → w'.heap[g]? = w.heap[g]?) (hs : w.heap.size ≤ w'.heap.size) : Lv w' pv S N i n FB FI := by
  obtain ⟨q, S0, T, P, bc, h1, h2, h3, h4, h5, h6⟩ := h.ex
  exact ⟨⟨q, S0, T, P, bc, h1.keep (fun g hg hl => hk g (h3 g hg) hl), h2.keep (fun g hg hl => hk g (h4 g hg) hl), h3, h4, h5, h6⟩, h.pl, fun g hg => Nat.lt_of_lt_of_le (h.sb g hg) hs⟩
theorem Lv.later (h : Lv w pv S N i n FB FI) (hb : Below w.heap.size w w') : Lv w' pv S N i n FB FI := h.keep (fun g _ hl => hb.block g hl) hb.size
theorem flip_row (F : Nat → Bool) (x r : Nat) (k : Nat) (hk : k < 4096) : rowF (flip1 F x) r k = (if r = x / 4096 then flip1 (rowF F r) (x % 4096) k else rowF F r k) := by
  unfold rowF flip1
  by_cases e : r = x / 4096
  · rw [if_pos e]
    subst e
    by_cases e2 : k = x % 4096
    · rw [if_pos (by omega), if_pos e2]
    · rw [if_neg (by omega), if_neg e2]
  · rw [if_neg e, if_neg (by omega)]
theorem planD_nat {N : Nat} {i : Int} (h : PlanOk N i) : ∃ D : Nat, planD N i = (D : Int) ∧ D + 8 ≤ N ∧ 70 ≤ D := by
  have h1 := h.d
  have h2 := h.i0
  have h3 := h.b0
  have hT := planT_eq (N : Int) h3
  have hD : planD N i = planT N + i / 4 := rfl
  exact ⟨(planD N i).toNat, by omega, by omega, by omega⟩
theorem rowsN_le {N : Nat} {i : Int} (h : PlanOk N i) : 69 + rowsN N ≤ N ∧ 68 < N ∧ N ≤ 65536 := by
  have h1 := h.d
  have h2 := h.i0
  have h3 := h.b0
  have h4 := h.b1
  have hT := planT_eq (N : Int) h3
  have hD : planD N i = planT N + i / 4 := rfl
  unfold rowsN
  omega
theorem ct_upd_same {P : Int → Option (List Int)} {bc : Nat → List Int} (k : Nat) (l : List Int) : ct (upd P (k : Int) (some l)) bc k = l := by unfold ct; rw [upd_same]; rfl
theorem ct_upd_other {P : Int → Option (List Int)} {bc : Nat → List Int} {k j : Nat} (l : List Int) (h : j ≠ k) : ct (upd P (k : Int) (some l)) bc j = ct P bc j := by unfold ct; rw [upd_other _ _ (by omega)]
theorem Lv.flipB {q : Nat} {S0 S1 T : Nat → Prop} {P : Int → Option (List Int)} {bc : Nat → List Int} {x : Nat} (hp : PlanOk N i) (hB : Bs w q T N bc (fun _ => false)) (h3 : ∀ g, S0 g → S g) (h4 : ∀ g, T g → S g) (h5 : ∀ g, T g → ¬ S0 g) (h6 : ∀ r, r < rowsN N → ct P bc (69 + r) = bitB (rowF FB r)) (h7 : ct P bc 68 = bitB FI) (hsb : ∀ g, S g → g < w.heap.size)
    (hv : Vw w' pv S1 N i (baseV q) (n + 1) (upd P ((69 + x / 4096 : Nat) : Int) (some (bitB (flip1 (rowF FB (x / 4096)) (x % 4096)))))) (hk : Kp S0 w S1 w') (hs1 : ∀ g, S1 g → g < w'.heap.size) :
    Lv w' pv (fun g => S g ∨ S1 g) N i (n + 1) (flip1 FB x) FI ∧ Kp S w (fun g => S g ∨ S1 g) w' := by
  refine ⟨⟨⟨q, S1, T, _, bc, hv, hB.keep (fun g hg hl => hk.2.block g hl (h5 g hg)), fun g hg => .inr hg, fun g hg => .inl (h4 g hg), fun g hg hs => ?_, fun r hr => ?_, ?_⟩, hp, fun g hg => ?_⟩, fun g hg => ?_, hk.2.weak (fun g hg => .inl (h3 g hg))⟩
  · rcases hk.1 g hs with h8 | h8
    · exact h5 g hg h8
    · have := hsb g (h4 g hg); omega
  · by_cases e : r = x / 4096
    · subst e
      rw [ct_upd_same]
      exact bitB_congr (fun k hk4 => by rw [flip_row FB x _ k hk4, if_pos rfl])
    · rw [ct_upd_other _ (by omega), h6 r hr]
      exact bitB_congr (fun k hk4 => by rw [flip_row FB x _ k hk4, if_neg e])
  · rw [ct_upd_other _ (by omega)]; exact h7
  · rcases hg with h8 | h8
    · exact Nat.lt_of_lt_of_le (hsb g h8) hk.2.size
    · exact hs1 g h8
  · rcases hg with h8 | h8
    · exact .inl h8
    · rcases hk.1 g h8 with h9 | h9
      · exact .inl (h3 g h9)
      · exact .inr h9
theorem Lv.flipI {q : Nat} {S0 S1 T : Nat → Prop} {P : Int → Option (List Int)} {bc : Nat → List Int} {x : Nat} (hx : x < 4096) (hp : PlanOk N i) (hB : Bs w q T N bc (fun _ => false)) (h3 : ∀ g, S0 g → S g) (h4 : ∀ g, T g → S g) (h5 : ∀ g, T g → ¬ S0 g) (h6 : ∀ r, r < rowsN N → ct P bc (69 + r) = bitB (rowF FB r)) (h7 : ct P bc 68 = bitB FI) (hsb : ∀ g, S g → g < w.heap.size)
    (hv : Vw w' pv S1 N i (baseV q) (n + 1) (upd P ((68 + x / 4096 : Nat) : Int) (some (bitB (flip1 (rowF FI (x / 4096)) (x % 4096)))))) (hk : Kp S0 w S1 w') (hs1 : ∀ g, S1 g → g < w'.heap.size) :
    Lv w' pv (fun g => S g ∨ S1 g) N i (n + 1) FB (flip1 FI x) ∧ Kp S w (fun g => S g ∨ S1 g) w' := by
  rw [show 68 + x / 4096 = 68 by omega, show x / 4096 = 0 by omega, show x % 4096 = x by omega] at hv
  refine ⟨⟨⟨q, S1, T, _, bc, hv, hB.keep (fun g hg hl => hk.2.block g hl (h5 g hg)), fun g hg => .inr hg, fun g hg => .inl (h4 g hg), fun g hg hs => ?_, fun r hr => ?_, ?_⟩, hp, fun g hg => ?_⟩, fun g hg => ?_, hk.2.weak (fun g hg => .inl (h3 g hg))⟩
  · rcases hk.1 g hs with h8 | h8
    · exact h5 g hg h8
    · have := hsb g (h4 g hg); omega
  · rw [ct_upd_other _ (by omega)]; exact h6 r hr
  · rw [ct_upd_same]
    exact bitB_congr (fun k _ => by unfold flip1 rowF; simp)
  · rcases hg with h8 | h8
    · exact Nat.lt_of_lt_of_le (hsb g h8) hk.2.size
    · exact hs1 g h8
  · rcases hg with h8 | h8
    · exact .inl h8
    · rcases hk.1 g h8 with h9 | h9
      · exact .inl (h3 g h9)
      · exact .inr h9
theorem TakeBlock_lv (h : Lv w pv S N i n FB FI) (hn : n < 900000) (D : Nat) (hD : planD N i = (D : Int)) :
    Calls Tryz.prog 100 #[.pointer (some ⟨pv, 0, none⟩)] w fun e w' => ∃ S', Kp S w S' w' ∧
      ((∃ x : Nat, D ≤ x ∧ x < N ∧ FB x = false ∧ (∀ j, D ≤ j → j < x → FB j = true) ∧ e = .returned (.tuple #[n64 x, .nilIface]) ∧ Lv w' pv S' N i (n + 1) (flip1 FB x) FI) ∨
       ((∀ j, D ≤ j → j < N → FB j = true) ∧ e = .returned (.tuple #[n64 0, .iface 57 (n64 7)]) ∧ Lv w' pv S' N i n FB FI)) := by
  obtain ⟨q, S0, T, P, bc, h1, h2, h3, h4, h5, h6, h7⟩ := h.ex
  obtain ⟨hr1, hr2, hr3⟩ := rowsN_le h.pl
  obtain ⟨D', hD', hD1, hD2⟩ := planD_nat h.pl
  have hDD : D' = D := by omega
  subst hDD
  have hc := take_any h1 h2 (fun g hg => h.sb g (h3 g hg)) hn (by omega) 69 D' N (rowsN N) rfl hr1 (fun _ _ => rfl) (by omega) (by omega) FB h6
  refine TakeBlock_via h1 _ (by rw [hD]; exact hc) ?_ |>.mono ?_
  · rintro e w2 (⟨x, _, _, _, _, rfl, _⟩ | ⟨_, rfl, _⟩)
    · exact ⟨x, .inl rfl⟩
    · exact ⟨0, .inr ⟨_, _, rfl⟩⟩
  · rintro e w2 (⟨x, x0, x1, x2, x3, rfl, S1, hv, hk, hs1⟩ | ⟨hall, rfl, hb⟩)
    · obtain ⟨k1, k2⟩ := Lv.flipB h.pl h2 h3 h4 h5 h6 h7 h.sb hv hk hs1
      exact ⟨_, k2, .inl ⟨x, x0, x1, x2, x3, rfl, k1⟩⟩
    · exact ⟨S, Kp.below hb, .inr ⟨hall, rfl, h.later hb⟩⟩
theorem Lv.fresh {q : Nat} {S0 T : Nat → Prop} (hp : PlanOk N i) (s ns : Int) (hv : Vw w pv S0 N i (baseV q) 0 (fun _ => none)) (hB : Bs w q T N (cont (mkfsL N i s ns)) (fun _ => false)) (hd : ∀ g, T g → ¬ S0 g) (hs : ∀ g, S0 g → g < w.heap.size) (ht : ∀ g, T g → g < w.heap.size) :
    Lv w pv (fun g => S0 g ∨ T g) N i 0 (fun k => decide ((k : Int) ≤ planD N i) || decide ((N : Int) ≤ (k : Int))) (imB i) := by
  refine ⟨⟨q, S0, T, _, _, hv, hB, fun _ h => .inl h, fun _ h => .inr h, hd, fun r hr => ?_, ?_⟩, hp, fun g hg => hg.elim (hs g) (ht g)⟩
  · unfold ct
    rw [show ((fun _ => none : Int → Option (List Int)) ((69 + r : Nat) : Int)) = none from rfl, Option.getD_none, cont_bm hp (by unfold rowsN at hr; omega)]
    exact bitB_congr (fun k hk => by unfold bmB rowF; simp)
  · unfold ct
    rw [show ((fun _ => none : Int → Option (List Int)) ((68 : Nat) : Int)) = none from rfl, Option.getD_none, cont_68 hp]
set_option maxRecDepth 100000 in
set_option maxHeartbeats 1000000 in
/-- A view of a new volume. -/
theorem Fresh_ok (w : World) (N : Nat) (i : Int) (hp : PlanOk N i) :
    Calls Tryz.prog 14 #[n64 N, n64 i] w fun e w' => ∃ pv S, e = .returned (.pointer (some ⟨pv, 0, none⟩)) ∧ Lv w' pv S N i 0 (fun k => decide ((k : Int) ≤ planD N i) || decide ((N : Int) ≤ (k : Int))) (imB i) ∧ (∀ g, S g → w.heap.size ≤ g) ∧ Below w.heap.size w w' := by
  have HM := hid (Made_ok w N i 0 0 hp (by decide) (by decide) (by decide) (by decide))
  have HP := hid hp
  clear hp
  go_enter Tryz.func14, Tryz.ntmps14
  go_wp2_with fail
  refine HM.out.mono ?_
  rintro e w1 ⟨q, rfl, hB, hb1⟩
  rw [Int.toNat_natCast] at hB
  have HO := hid (Over_any w1 q N _ _ _ hB i HP.out (cont_0 HP.out))
  have HB := hid hB
  have HB1 := hid hb1
  clear hB hb1 HM
  go_wp2_with fail
  refine HO.out.mono ?_
  rintro e w2 ⟨pv, rfl, hv, hb2⟩
  have HL := hid (Lv.fresh HP.out 0 0 hv (HB.out.later hb2) (fun g hg hs => by have := hg.2; have := hs.1; omega) (fun g hg => hg.2) (fun g hg => Nat.lt_of_lt_of_le hg.2 hb2.size))
  have HB2 := hid hb2
  clear hv hb2 HO
  go_wp2
  go_ret
  refine ⟨pv, _, rfl, HL.out, fun g hg => ?_, HB1.out.trans (HB2.out.mono HB1.out.size)⟩
  rcases hg with h | h
  · exact Nat.le_trans HB1.out.size h.1
  · exact h.1
theorem plan128 : PlanOk ((128 : Nat) : Int) 8 := PlanOk.of (by decide)
theorem plan128' : PlanOk 128 8 := plan128
end Go.Proofs.YtaplmlldmhdhoaaGreatDoor

/- count; how many are free. -/
namespace Go.Proofs.YtaplmlldmhdhoaaGreatDoor
open Go.RowKit Go.Maps
set_option linter.unusedVariables false

variable {w w' : World} {pv n q N : Nat} {S S' T : Nat → Prop} {b i : Int} {P : Int → Option (List Int)} {bc : Nat → List Int} {lk : Nat → Bool}
theorem cnt_shift (F : Nat → Bool) (lo r : Nat) : ∀ m, m ≤ 4096 → cnt F lo (r * 4096 + m) = cnt F lo (r * 4096) + cnt (rowF F r) (lo - r * 4096) m
  | 0, _ => by rw [Nat.add_zero, show cnt (rowF F r) (lo - r * 4096) 0 = 0 from rfl, Nat.add_zero]
  | m + 1, hm => by
    rw [← Nat.add_assoc, cnt, cnt, cnt_shift F lo r m (by omega), Nat.add_assoc]
    congr 2
    unfold rowF
    by_cases h : lo ≤ r * 4096 + m
    · have h2 : lo - r * 4096 ≤ m := by omega
      simp [h, h2]
    · have h2 : ¬ lo - r * 4096 ≤ m := by omega
      simp [h, h2]
end Go.Proofs.YtaplmlldmhdhoaaGreatDoor
