/- IcE, IcF in one text. -/
import Derived.Test.YtnifdbameoilnaaGreatDoorIcD
/- What is written, as pure steps; a new volume. -/
namespace Go.Proofs.YtnifdbameoilnaaGreatDoor
open Go.RowKit Go.Maps
set_option linter.unusedVariables false

theorem Reach.bits {k D N m a : Nat} {c c' : Nat → List Int} {F F' : Nat → Bool} {ptr ptr' : Nat → Nat} (h : Reach k D N m c F ptr c' F' ptr' a) (hD : 70 ≤ D) (hc : c 69 = bitB F) : c' 69 = bitB F' := by
  induction h with
  | done _ _ => exact hc
  | fill _ _ ho hx _ ih => exact ih (fillC_69 _ _ _ _ _ (by have := hx.1; omega) (by rcases ho with h | h <;> omega))
theorem WriteR.bits {D N at_ q : Nat} {l : List Int} {c c' : Nat → List Int} {F F' : Nat → Bool} {ptr ptr' : Nat → Nat} (h : WriteR D N at_ l c F ptr c' F' ptr' q) (hD : 70 ≤ D) (hc : c 69 = bitB F) : c' 69 = bitB F' := by
  induction h with
  | nil => exact hc
  | cons _ hr h1 _ _ _ ih => exact ih (by rw [updN_other _ _ (by omega)]; exact hr.bits hD hc)
theorem find_error {c : Nat → List Int} {ptr : Nat → Nat} {k : Nat} (hk : k < 6) (h : ptr k = 0) : findF c ptr k = .error (0, k, k + 1) := by
  unfold findF comeF
  rw [if_pos hk, if_pos h, Nat.mod_one]
  simp
theorem find_okk {c : Nat → List Int} {ptr : Nat → Nat} {k a : Nat} (hk : k < 6) (h : ptr k = a) (ha : a ≠ 0) : findF c ptr k = .ok a := by
  unfold findF comeF
  rw [if_pos hk, if_neg (by omega), h]
theorem findOk_low {c : Nat → List Int} {ptr : Nat → Nat} {N k : Nat} (hk : k < 6) : FindOk c ptr N k := ⟨fun h => by omega, fun h => by omega, fun h => by omega⟩
/-- A block of the first six that is a hole. -/
theorem reach_low {c : Nat → List Int} {F : Nat → Bool} {ptr : Nat → Nat} {D N k x : Nat} (hk : k < 6) (h : ptr k = 0) (hx : LowF F D N x) (hx0 : x ≠ 0) : Reach k D N 1 c F ptr (fillC c F x 0 k) (flip1 F x) (fillP ptr x 0 k) x :=
  .fill (findOk_low hk) (find_error hk h) (.inl ⟨rfl, by omega⟩) hx (.done (findOk_low hk) (find_okk hk (by unfold fillP updP; simp) hx0))
theorem fresh_bits {N : Nat} {i : Int} (hp : PlanOk N i) (hN : N ≤ 4096) (s ns : Int) : cont (mkfsL N i s ns) 69 = bitB (fun k => decide ((k : Int) ≤ planD N i) || decide ((N : Int) ≤ (k : Int))) := by
  have h := cont_bm (s := s) (ns := ns) hp (r := 0) (by have := hp.b0; omega)
  rw [Nat.add_zero] at h
  rw [h]
  exact bitB_congr (fun k hk => by unfold bmB; simp)
set_option maxRecDepth 100000 in
set_option maxHeartbeats 1000000 in
/-- A view of a new volume, by its blocks. -/
theorem Fresh_dw (w : World) (N : Nat) (i : Int) (hp : PlanOk N i) (hN : N ≤ 4096) :
    Calls Tryz.prog 5 #[n64 N, n64 i] w fun e w' => ∃ pv S base T bc, e = .returned (ptrV pv) ∧ Dw w' pv S N i base T bc 0 (fun _ => none) bc ∧ bc 69 = bitB (fun k => decide ((k : Int) ≤ planD N i) || decide ((N : Int) ≤ (k : Int))) ∧ (∀ g, S g → w.heap.size ≤ g) ∧ (∀ g, T g → w.heap.size ≤ g) ∧ Below w.heap.size w w' := by
  have HM := hid (Made_ok w N i 0 0 hp (by decide) (by decide) (by decide) (by decide))
  have HP := hid hp
  have HN := hid hN
  clear hp hN
  go_enter Tryz.func5, Tryz.ntmps5
  go_wp2_with fail
  refine HM.out.mono ?_
  rintro e w1 ⟨q, rfl, hB, hb1⟩
  rw [Int.toNat_natCast] at hB
  have HO := hid (Over_any w1 q N _ _ _ hB i HP.out (cont_0 HP.out))
  have HB := hid hB
  have HB1 := hid hb1
  clear hB hb1 HM
  go_wp2_with fail
  refine HO.out.mono ?_
  rintro e w2 ⟨pv, rfl, hv, hb2⟩
  have hB2 := HB.out.later hb2
  have HD : Hid (Dw w2 pv _ N i (baseV q) _ (cont (mkfsL N i 0 0)) 0 (fun _ => none) (cont (mkfsL N i 0 0))) := hid ⟨hv, Tl.ofBs hB2 (by have := HN.out; omega) (fun g hg => Nat.lt_of_lt_of_le hg.2 hb2.size), fun k _ => rfl, fun _ _ _ => rfl, fun g hg => hg.2, fun g hg hs => by have := hg.2; have := hs.1; omega, HP.out, HN.out, fun k hk => hB2.len hk, fun k hk => hB2.isB hk⟩
  have HB2 := hid hb2
  clear hv hb2 HO hB2
  go_wp2
  go_ret
  exact ⟨pv, _, _, _, _, rfl, HD.out, fresh_bits HP.out HN.out 0 0, fun g hg => Nat.le_trans HB1.out.size hg.1, fun g hg => hg.1, HB1.out.trans (HB2.out.mono HB1.out.size)⟩
end Go.Proofs.YtnifdbameoilnaaGreatDoor

/- The chapter's example, as pure steps. -/
namespace Go.Proofs.YtnifdbameoilnaaGreatDoor
open Go.RowKit Go.Maps
set_option linter.unusedVariables false

theorem planD_200 : planD ((200 : Nat) : Int) 8 = ((72 : Nat) : Int) := by decide
theorem plan200 : PlanOk ((200 : Nat) : Int) 8 := PlanOk.of (by decide)
def F200 : Nat → Bool := fun k => decide ((k : Int) ≤ planD ((200 : Nat) : Int) 8) || decide (((200 : Nat) : Int) ≤ (k : Int))
theorem F200_at (k : Nat) : F200 k = (decide (k ≤ 72) || decide (200 ≤ k)) := by
  unfold F200
  rw [planD_200]
  congr 1
  · exact decide_eq_decide.2 (by omega)
  · exact decide_eq_decide.2 (by omega)
/-- F with 73 up to below x taken. -/
def FT (x : Nat) : Nat → Bool := fun k => decide (k < x) || decide (200 ≤ k)
theorem FT_low {x : Nat} (h : 72 ≤ x) (h2 : x < 200) : LowF (FT x) 72 200 x := ⟨h, h2, by unfold FT; simp; omega, fun j _ h3 => by unfold FT; simp; omega⟩
theorem FT_flip {x : Nat} (h2 : x < 200) : flip1 (FT x) x = FT (x + 1) := by
  funext j
  unfold flip1 FT
  by_cases e : j = x
  · subst e
    rw [if_pos rfl]
    have h1 : decide (j < j) = false := by simp
    have h3 : decide (200 ≤ j) = false := by simp; omega
    have h4 : decide (j < j + 1) = true := by simp
    rw [h1, h3, h4]; rfl
  · rw [if_neg e]
    congr 1
    exact decide_eq_decide.2 (by omega)
theorem F200_FT : F200 = FT 73 := by
  funext k
  rw [F200_at]
  unfold FT
  congr 1
  exact decide_eq_decide.2 (by omega)
theorem zeros_pAt : pAt zeros512 0 = 0 := by
  unfold pAt rdN zeros512
  rw [Nat.zero_mul, List.drop_zero, List.take_replicate]
  rfl
theorem zeros_ptrs {s : Nat} : ∀ x ∈ ptrsL zeros512, 0 ≤ x ∧ x < 4294967296 := fun x hx => by
  simp only [ptrsL, List.mem_map, List.mem_range] at hx
  obtain ⟨s, _, rfl⟩ := hx
  have := (pAt_bd zeros512 s zeros_isB).2
  omega
theorem WriteR.go {D N m a q : Nat} (at_ k m0 : Nat) {l : List Int} {c c1 c' : Nat → List Int} {F F1 F' : Nat → Bool} {ptr ptr1 ptr' : Nat → Nat} (hr : Reach k D N m c F ptr c1 F1 ptr1 a) (hk : at_ / 512 = k) (hw : WriteR D N (at_ + m0) (l.drop m0) (updN c1 a (layL (c1 a) (at_ % 512) (l.take m0))) F1 ptr1 c' F' ptr' q) (hne : l ≠ []) (h1 : 69 < a) (h2 : a < N) (hm : m0 = min l.length (512 - at_ % 512)) : WriteR D N at_ l c F ptr c' F' ptr' (q + 3 * m + 1) := by
  subst hk
  exact .cons hne hr h1 h2 hm hw
theorem known_w1 (c : Nat → List Int) (l : List Int) (hl : l.length = 513) : ∃ c' ptr', WriteR 72 200 0 l c (FT 73) (fun _ => 0) c' (FT 75) ptr' 8 ∧ ptr' 0 = 73 ∧ ptr' 1 = 74 := by
  have r1 : Reach 0 72 200 1 c (FT 73) (fun _ => 0) _ _ _ 73 := reach_low (by decide) rfl (FT_low (by decide) (by decide)) (by decide)
  rw [FT_flip (by decide)] at r1
  obtain ⟨c2, hc2⟩ : ∃ c2, c2 = updN (fillC c (FT 73) 73 0 0) 73 (layL (fillC c (FT 73) 73 0 0 73) (0 % 512) (l.take 512)) := ⟨_, rfl⟩
  have r2 : Reach 1 72 200 1 c2 (FT 74) (fillP (fun _ => 0) 73 0 0) _ _ _ 74 := reach_low (by decide) rfl (FT_low (by decide) (by decide)) (by decide)
  rw [FT_flip (by decide)] at r2
  obtain ⟨c3, hc3⟩ : ∃ c3, c3 = updN (fillC c2 (FT 74) 74 0 1) 74 (layL (fillC c2 (FT 74) 74 0 1 74) ((0 + 512) % 512) ((l.drop 512).take 1)) := ⟨_, rfl⟩
  have hd : (l.drop 512).length = 1 := by rw [List.length_drop, hl]
  have w3 : WriteR 72 200 (0 + 512 + 1) ((l.drop 512).drop 1) c3 (FT 75) (fillP (fillP (fun _ => 0) 73 0 0) 74 0 1) c3 (FT 75) (fillP (fillP (fun _ => 0) 73 0 0) 74 0 1) 0 := by
    rw [List.eq_nil_of_length_eq_zero (l := (l.drop 512).drop 1) (by rw [List.length_drop, hd])]
    exact WriteR.nil
  have w2 : WriteR 72 200 (0 + 512) (l.drop 512) c2 (FT 74) (fillP (fun _ => 0) 73 0 0) c3 (FT 75) (fillP (fillP (fun _ => 0) 73 0 0) 74 0 1) (0 + 3 * 1 + 1) := by
    rw [hc3] at w3 ⊢
    exact WriteR.go (0 + 512) 1 1 r2 rfl w3 (fun e => by rw [e] at hd; cases hd) (by decide) (by decide) (by rw [hd]; rfl)
  have w1 : WriteR 72 200 0 l c (FT 73) (fun _ => 0) c3 (FT 75) (fillP (fillP (fun _ => 0) 73 0 0) 74 0 1) (0 + 3 * 1 + 1 + 3 * 1 + 1) := by
    rw [hc2] at w2
    exact WriteR.go 0 0 512 r1 rfl w2 (fun e => by rw [e] at hl; cases hl) (by decide) (by decide) (by rw [hl]; rfl)
  exact ⟨c3, _, w1, rfl, rfl⟩
theorem find6 (c : Nat → List Int) (ptr : Nat → Nat) : findF c ptr 6 = stepF c 6 0 (comeF 6 0 0 6 (ptr 6) 128) 1 := rfl
theorem known_w2 (c : Nat → List Int) (l : List Int) (hl : l.length = 1) : ∃ c' ptr' F', WriteR 72 200 3072 l c (FT 75) (fun _ => 0) c' F' ptr' 7 ∧ ptr' 6 = 75 ∧ ptr' 0 = 0 := by
  obtain ⟨p0, hp0⟩ : ∃ p0 : Nat → Nat, p0 = fun _ => 0 := ⟨_, rfl⟩
  obtain ⟨c3, hc3⟩ : ∃ c3, c3 = fillC c (FT 75) 75 0 6 := ⟨_, rfl⟩
  obtain ⟨p3, hp3⟩ : ∃ p3, p3 = fillP p0 75 0 6 := ⟨_, rfl⟩
  have p36 : p3 6 = 75 := by rw [hp3]; rfl
  have c375 : c3 75 = zeros512 := by rw [hc3]; unfold fillC; rw [updN_same]
  obtain ⟨c4, hc4⟩ : ∃ c4, c4 = fillC c3 (FT 76) 76 75 0 := ⟨_, rfl⟩
  have c475 : c4 75 = encPs ((ptrsL zeros512).set 0 76) := by
    rw [hc4]
    unfold fillC
    rw [updN_other _ _ (by decide), if_neg (by decide), updN_same, updN_other _ _ (by decide), c375]
    rfl
  have f1 : findF c p0 6 = .error (0, 6, 134) := by rw [find6, hp0]; rfl
  have f2 : findF c3 p3 6 = .error (75, 0, 7) := by
    rw [find6, p36]
    show comeF 6 0 75 (0 / 1 % 128) (pAt (c3 75) (0 / 1 % 128)) 1 = _
    rw [c375]
    show comeF 6 0 75 0 (pAt zeros512 0) 1 = _
    rw [zeros_pAt]
    rfl
  have hp : pAt (c4 75) 0 = 76 := by
    rw [c475, pAt_enc (fun x hx => by
      rcases List.mem_or_eq_of_mem_set hx with h | h
      · exact zeros_ptrs (s := 0) x h
      · rw [h]; omega) (by rw [List.length_set, ptrsL_len]; decide)]
    rw [List.getD_eq_getElem?_getD, List.getElem?_set, if_pos rfl, if_pos (by rw [ptrsL_len]; decide)]
    rfl
  have f3 : findF c4 p3 6 = .ok 76 := by
    rw [find6, p36]
    show comeF 6 0 75 0 (pAt (c4 75) 0) 1 = _
    rw [hp]
    rfl
  have o1 : FindOk c p0 200 6 := ⟨fun _ _ a h => (by rw [hp0] at h; cases h), fun h => (by omega), fun h => (by omega)⟩
  have o2 : ∀ c', FindOk c' p3 200 6 := fun c' => ⟨fun _ _ a h => by
    rw [p36] at h
    have : (75 : Nat) = a := Except.ok.inj h
    omega, fun h => by omega, fun h => by omega⟩
  have r3 : Reach 6 72 200 0 c4 (FT 77) p3 c4 (FT 77) p3 76 := .done (o2 c4) f3
  have r2 : Reach 6 72 200 1 c3 (FT 76) p3 c4 (FT 77) p3 76 := by
    refine .fill (o2 c3) f2 (.inr ⟨by decide, by decide, by decide⟩) (FT_low (x := 76) (by decide) (by decide)) ?_
    rw [← hc4, FT_flip (by decide)]
    exact r3
  have r1 : Reach 6 72 200 2 c (FT 75) p0 c4 (FT 77) p3 76 := by
    refine .fill o1 f1 (.inl ⟨rfl, by decide⟩) (FT_low (x := 75) (by decide) (by decide)) ?_
    rw [← hc3, ← hp3, FT_flip (by decide)]
    exact r2
  obtain ⟨c5, hc5⟩ : ∃ c5, c5 = updN c4 76 (layL (c4 76) (3072 % 512) (l.take 1)) := ⟨_, rfl⟩
  have w2 : WriteR 72 200 (3072 + 1) (l.drop 1) c5 (FT 77) p3 c5 (FT 77) p3 0 := by
    rw [List.eq_nil_of_length_eq_zero (l := l.drop 1) (by rw [List.length_drop, hl])]
    exact WriteR.nil
  have w1 : WriteR 72 200 3072 l c (FT 75) p0 c5 (FT 77) p3 (0 + 3 * 2 + 1) := by
    rw [hc5] at w2 ⊢
    exact WriteR.go 3072 6 1 r1 rfl w2 (fun e => by rw [e] at hl; cases hl) (by decide) (by decide) (by rw [hl]; rfl)
  rw [hp0] at w1
  exact ⟨c5, p3, FT 77, w1, p36, by rw [hp3, hp0]; rfl⟩
end Go.Proofs.YtnifdbameoilnaaGreatDoor
