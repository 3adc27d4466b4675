/- IcF, IcG in one text. -/
import Derived.Test.YtaplmlldmhdhoaaGreatDoorIcE
/- The chapter's example, as pure steps. -/
namespace Go.Proofs.YtaplmlldmhdhoaaGreatDoor
open Go.RowKit Go.Maps
set_option linter.unusedVariables false

theorem planD_200 : planD ((200 : Nat) : Int) 8 = ((72 : Nat) : Int) := by decide
theorem plan200 : PlanOk ((200 : Nat) : Int) 8 := PlanOk.of (by decide)
def F200 : Nat → Bool := fun k => decide ((k : Int) ≤ planD ((200 : Nat) : Int) 8) || decide (((200 : Nat) : Int) ≤ (k : Int))
theorem F200_at (k : Nat) : F200 k = (decide (k ≤ 72) || decide (200 ≤ k)) := by
  unfold F200
  rw [planD_200]
  congr 1
  · exact decide_eq_decide.2 (by omega)
  · exact decide_eq_decide.2 (by omega)
/-- F with 73 up to below x taken. -/
def FT (x : Nat) : Nat → Bool := fun k => decide (k < x) || decide (200 ≤ k)
theorem FT_low {x : Nat} (h : 72 ≤ x) (h2 : x < 200) : LowF (FT x) 72 200 x := ⟨h, h2, by unfold FT; simp; omega, fun j _ h3 => by unfold FT; simp; omega⟩
theorem FT_flip {x : Nat} (h2 : x < 200) : flip1 (FT x) x = FT (x + 1) := by
  funext j
  unfold flip1 FT
  by_cases e : j = x
  · subst e
    rw [if_pos rfl]
    have h1 : decide (j < j) = false := by simp
    have h3 : decide (200 ≤ j) = false := by simp; omega
    have h4 : decide (j < j + 1) = true := by simp
    rw [h1, h3, h4]; rfl
  · rw [if_neg e]
    congr 1
    exact decide_eq_decide.2 (by omega)
theorem F200_FT : F200 = FT 73 := by
  funext k
  rw [F200_at]
  unfold FT
  congr 1
  exact decide_eq_decide.2 (by omega)
theorem zeros_pAt : pAt zeros512 0 = 0 := by
  unfold pAt rdN zeros512
  rw [Nat.zero_mul, List.drop_zero, List.take_replicate]
  rfl
theorem zeros_ptrs {s : Nat} : ∀ x ∈ ptrsL zeros512, 0 ≤ x ∧ x < 4294967296 := fun x hx => by
  simp only [ptrsL, List.mem_map, List.mem_range] at hx
  obtain ⟨s, _, rfl⟩ := hx
  have := (pAt_bd zeros512 s zeros_isB).2
  omega
theorem WriteR.go {D N m a q : Nat} (at_ k m0 : Nat) {l : List Int} {c c1 c' : Nat → List Int} {F F1 F' : Nat → Bool} {ptr ptr1 ptr' : Nat → Nat} (hr : Reach k D N m c F ptr c1 F1 ptr1 a) (hk : at_ / 512 = k) (hw : WriteR D N (at_ + m0) (l.drop m0) (updN c1 a (layL (c1 a) (at_ % 512) (l.take m0))) F1 ptr1 c' F' ptr' q) (hne : l ≠ []) (h1 : 69 < a) (h2 : a < N) (hm : m0 = min l.length (512 - at_ % 512)) : WriteR D N at_ l c F ptr c' F' ptr' (q + 3 * m + 1) := by
  subst hk
  exact .cons hne hr h1 h2 hm hw
theorem known_w1 (c : Nat → List Int) (l : List Int) (hl : l.length = 513) : ∃ c' ptr', WriteR 72 200 0 l c (FT 73) (fun _ => 0) c' (FT 75) ptr' 8 ∧ ptr' 0 = 73 ∧ ptr' 1 = 74 := by
  have r1 : Reach 0 72 200 1 c (FT 73) (fun _ => 0) _ _ _ 73 := reach_low (by decide) rfl (FT_low (by decide) (by decide)) (by decide)
  rw [FT_flip (by decide)] at r1
  obtain ⟨c2, hc2⟩ : ∃ c2, c2 = updN (fillC c (FT 73) 73 0 0) 73 (layL (fillC c (FT 73) 73 0 0 73) (0 % 512) (l.take 512)) := ⟨_, rfl⟩
  have r2 : Reach 1 72 200 1 c2 (FT 74) (fillP (fun _ => 0) 73 0 0) _ _ _ 74 := reach_low (by decide) rfl (FT_low (by decide) (by decide)) (by decide)
  rw [FT_flip (by decide)] at r2
  obtain ⟨c3, hc3⟩ : ∃ c3, c3 = updN (fillC c2 (FT 74) 74 0 1) 74 (layL (fillC c2 (FT 74) 74 0 1 74) ((0 + 512) % 512) ((l.drop 512).take 1)) := ⟨_, rfl⟩
  have hd : (l.drop 512).length = 1 := by rw [List.length_drop, hl]
  have w3 : WriteR 72 200 (0 + 512 + 1) ((l.drop 512).drop 1) c3 (FT 75) (fillP (fillP (fun _ => 0) 73 0 0) 74 0 1) c3 (FT 75) (fillP (fillP (fun _ => 0) 73 0 0) 74 0 1) 0 := by
    rw [List.eq_nil_of_length_eq_zero (l := (l.drop 512).drop 1) (by rw [List.length_drop, hd])]
    exact WriteR.nil
  have w2 : WriteR 72 200 (0 + 512) (l.drop 512) c2 (FT 74) (fillP (fun _ => 0) 73 0 0) c3 (FT 75) (fillP (fillP (fun _ => 0) 73 0 0) 74 0 1) (0 + 3 * 1 + 1) := by
    rw [hc3] at w3 ⊢
    exact WriteR.go (0 + 512) 1 1 r2 rfl w3 (fun e => by rw [e] at hd; cases hd) (by decide) (by decide) (by rw [hd]; rfl)
  have w1 : WriteR 72 200 0 l c (FT 73) (fun _ => 0) c3 (FT 75) (fillP (fillP (fun _ => 0) 73 0 0) 74 0 1) (0 + 3 * 1 + 1 + 3 * 1 + 1) := by
    rw [hc2] at w2
    exact WriteR.go 0 0 512 r1 rfl w2 (fun e => by rw [e] at hl; cases hl) (by decide) (by decide) (by rw [hl]; rfl)
  exact ⟨c3, _, w1, rfl, rfl⟩
theorem find6 (c : Nat → List Int) (ptr : Nat → Nat) : findF c ptr 6 = stepF c 6 0 (comeF 6 0 0 6 (ptr 6) 128) 1 := rfl
theorem known_w2 (c : Nat → List Int) (l : List Int) (hl : l.length = 1) : ∃ c' ptr' F', WriteR 72 200 3072 l c (FT 75) (fun _ => 0) c' F' ptr' 7 ∧ ptr' 6 = 75 ∧ ptr' 0 = 0 := by
  obtain ⟨p0, hp0⟩ : ∃ p0 : Nat → Nat, p0 = fun _ => 0 := ⟨_, rfl⟩
  obtain ⟨c3, hc3⟩ : ∃ c3, c3 = fillC c (FT 75) 75 0 6 := ⟨_, rfl⟩
  obtain ⟨p3, hp3⟩ : ∃ p3, p3 = fillP p0 75 0 6 := ⟨_, rfl⟩
  have p36 : p3 6 = 75 := by rw [hp3]; rfl
  have c375 : c3 75 = zeros512 := by rw [hc3]; unfold fillC; rw [updN_same]
  obtain ⟨c4, hc4⟩ : ∃ c4, c4 = fillC c3 (FT 76) 76 75 0 := ⟨_, rfl⟩
  have c475 : c4 75 = encPs ((ptrsL zeros512).set 0 76) := by
    rw [hc4]
    unfold fillC
    rw [updN_other _ _ (by decide), if_neg (by decide), updN_same, updN_other _ _ (by decide), c375]
    rfl
  have f1 : findF c p0 6 = .error (0, 6, 134) := by rw [find6, hp0]; rfl
  have f2 : findF c3 p3 6 = .error (75, 0, 7) := by
    rw [find6, p36]
    show comeF 6 0 75 (0 / 1 % 128) (pAt (c3 75) (0 / 1 % 128)) 1 = _
    rw [c375]
    show comeF 6 0 75 0 (pAt zeros512 0) 1 = _
    rw [zeros_pAt]
    rfl
  have hp : pAt (c4 75) 0 = 76 := by
    rw [c475, pAt_enc (fun x hx => by
      rcases List.mem_or_eq_of_mem_set hx with h | h
      · exact zeros_ptrs (s := 0) x h
      · rw [h]; omega) (by rw [List.length_set, ptrsL_len]; decide)]
    rw [List.getD_eq_getElem?_getD, List.getElem?_set, if_pos rfl, if_pos (by rw [ptrsL_len]; decide)]
    rfl
  have f3 : findF c4 p3 6 = .ok 76 := by
    rw [find6, p36]
    show comeF 6 0 75 0 (pAt (c4 75) 0) 1 = _
    rw [hp]
    rfl
  have o1 : FindOk c p0 200 6 := ⟨fun _ _ a h => (by rw [hp0] at h; cases h), fun h => (by omega), fun h => (by omega)⟩
  have o2 : ∀ c', FindOk c' p3 200 6 := fun c' => ⟨fun _ _ a h => by
    rw [p36] at h
    have : (75 : Nat) = a := Except.ok.inj h
    omega, fun h => by omega, fun h => by omega⟩
  have r3 : Reach 6 72 200 0 c4 (FT 77) p3 c4 (FT 77) p3 76 := .done (o2 c4) f3
  have r2 : Reach 6 72 200 1 c3 (FT 76) p3 c4 (FT 77) p3 76 := by
    refine .fill (o2 c3) f2 (.inr ⟨by decide, by decide, by decide⟩) (FT_low (x := 76) (by decide) (by decide)) ?_
    rw [← hc4, FT_flip (by decide)]
    exact r3
  have r1 : Reach 6 72 200 2 c (FT 75) p0 c4 (FT 77) p3 76 := by
    refine .fill o1 f1 (.inl ⟨rfl, by decide⟩) (FT_low (x := 75) (by decide) (by decide)) ?_
    rw [← hc3, ← hp3, FT_flip (by decide)]
    exact r2
  obtain ⟨c5, hc5⟩ : ∃ c5, c5 = updN c4 76 (layL (c4 76) (3072 % 512) (l.take 1)) := ⟨_, rfl⟩
  have w2 : WriteR 72 200 (3072 + 1) (l.drop 1) c5 (FT 77) p3 c5 (FT 77) p3 0 := by
    rw [List.eq_nil_of_length_eq_zero (l := l.drop 1) (by rw [List.length_drop, hl])]
    exact WriteR.nil
  have w1 : WriteR 72 200 3072 l c (FT 75) p0 c5 (FT 77) p3 (0 + 3 * 2 + 1) := by
    rw [hc5] at w2 ⊢
    exact WriteR.go 3072 6 1 r1 rfl w2 (fun e => by rw [e] at hl; cases hl) (by decide) (by decide) (by rw [hl]; rfl)
  rw [hp0] at w1
  exact ⟨c5, p3, FT 77, w1, p36, by rw [hp3, hp0]; rfl⟩
end Go.Proofs.YtaplmlldmhdhoaaGreatDoor

/- known. -/
namespace Go.Proofs.YtaplmlldmhdhoaaGreatDoor
open Go.RowKit Go.Maps
set_option linter.unusedVariables false

theorem ino0 : InoIs #[.int .i64 0, .int .i64 0, .int .i64 0, .int .u32 0, .int .u32 0, .int .u32 0, .int .u64 0, .int .u64 0, .int .u32 0, .int .u32 0, .int .u32 0, .int .u32 0, .int .u32 0, .int .u32 0, .int .i64 0, .int .i64 0, .int .i64 0, .int .i64 0, .int .i64 0, .int .i64 0, .int .i64 0, .int .i64 0, .int .i64 0] 0 (fun _ => 0) := ⟨rfl, rfl, fun j hj => by
  rcases (show j = 0 ∨ j = 1 ∨ j = 2 ∨ j = 3 ∨ j = 4 ∨ j = 5 ∨ j = 6 ∨ j = 7 ∨ j = 8 by omega) with rfl | rfl | rfl | rfl | rfl | rfl | rfl | rfl | rfl <;> rfl, by simp [Value.oneCell']⟩
theorem zerosN_by (w : World) (m : Nat) : By (w.alloc (.cells (madeCells #[.int .u8 0] m) 5)) (fun _ => True) (some ⟨w.heap.size, 0, none⟩) (List.replicate m 0) := by
  refine ⟨fun x hx => by rw [List.eq_of_mem_replicate hx]; exact ⟨by decide, by decide⟩, fun _ => ⟨w.heap.size, 0, _, _, rfl, trivial, alloc_new w _, fun i hi => ?_⟩⟩
  rw [List.length_replicate] at hi
  rw [Nat.zero_add, ← Array.getElem?_toList, toList_madeCells_one, List.getElem?_replicate, if_pos hi, List.getD_eq_getElem?_getD, List.getElem?_replicate, if_pos hi]
  rfl
end Go.Proofs.YtaplmlldmhdhoaaGreatDoor
