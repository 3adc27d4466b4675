/- The program's reader: its calls. -/
import Derived.Test.YteeakkpbpffohaaXdD
namespace Go.Proofs.Yteeakkpbpffohaa
open Go.RowKit Go.Maps
set_option linter.unusedVariables false

/-- A copy of the reader's row in a new block. -/
theorem copy_row {w : World} {X : Nat → Prop} {p : Nat} {r : Rd} (h : RX w 68 X p r) : ∃ a c W2, w.heap[p]? = some (.cells #[.slice a r.l.length c, .int .i64 r.k, .int .i64 r.e] 68 (0, 0)) ∧
    W2 = w.alloc (.cells #[.slice a r.l.length c, .int .i64 r.k] 66) ∧
    Below w.heap.size w W2 ∧ W2.heap[p]? = w.heap[p]? ∧ RQ W2 (fun b => X b ∨ b = w.heap.size) w.heap.size a c r.l r.k ∧ r.l.length ≤ c ∧ (∀ W, Mods X w W → Bytes W a r.l) := by
  obtain ⟨a, c, h1, h2, h3⟩ := h.box
  have hb : Below w.heap.size w (w.alloc (.cells #[.slice a r.l.length c, .int .i64 r.k] 66)) := below_alloc (Below.refl _ _) (Nat.le_refl _) _
  refine ⟨a, c, _, h1, rfl, hb, hb.block p h.lt, ⟨alloc_new w _, .inr rfl, fun W hW => h3 W ?_, h2, h.hl⟩, h2, h3⟩
  exact (Mods.of_below (al := X) hb).trans hW (fun b hb2 => hb2.imp id (fun e => by rw [e]; exact Nat.le_refl _))
set_option maxRecDepth 100000 in
set_option maxHeartbeats 4000000 in
theorem ans32_any {w : World} {X : Nat → Prop} {p : Nat} {r : Rd} (h : RX w 68 X p r) (R : Rs (Int)) (hk : R.e = 0 → R.k ≤ r.l.length) (he : R.e = 0 ∨ R.e = 1 ∨ R.e = 5 ∨ R.e = 11 ∨ R.e = 15)
    (hf : ∀ a c W, RQ W (fun b => X b ∨ b = w.heap.size) w.heap.size a c r.l r.k → Below w.heap.size w W → Calls Try.prog 50 #[.pointer (some ⟨w.heap.size, 0, none⟩)] W fun e w' => e = .returned (.tuple #[.int .u32 R.v, .int .i64 R.e]) ∧ (R.e = 0 → RQ w' (fun b => X b ∨ b = w.heap.size) w.heap.size a c r.l R.k) ∧ Mods (fun b => b = w.heap.size) W w') :
    Calls Try.prog 49 #[.pointer (some ⟨p, 0, none⟩), .func (.func 50) #[] #[]] w fun e w' => e = .returned (.int .u32 (ansV r 0 R)) ∧ RX w' 68 X p (ansR r R) ∧ Mods (fun b => b = p) w w' := by
  obtain ⟨a, c, W2, h1, hW2, hb2, hp2, hq, hc, hby⟩ := copy_row h
  have c0 := cell_of h1 (i := 0) (v := .slice a r.l.length c) rfl
  have c1 := cell_of h1 (i := 1) (v := .int .i64 r.k) rfl
  have c2 := cell_of h1 (i := 2) (v := .int .i64 r.e) rfl
  have HH := hid h
  have hpl := h.lt
  obtain ⟨l, k, er⟩ := r
  simp only at h1 hW2 hp2 hq hc hby c0 c1 c2 hk hf ⊢
  by_cases h0 : er = 0
  rotate_left
  · have hne : (er != 0) = true := by simpa using h0
    have e1 : ansR ⟨l, k, er⟩ R = ⟨l, k, er⟩ := by unfold ansR; rw [if_neg h0]
    have e2 : ansV ⟨l, k, er⟩ 0 R = 0 := by unfold ansV; rw [if_neg h0]
    rw [e1, e2]
    have HM := hid (Mods.refl (fun b => b = p) w)
    clear h1 hW2 hb2 hp2 hq hc hby c0 c1 e1 e2 hf h
    go_enter Try.func49, Try.ntmps49
    go_wp2
    go_ret
    exact ⟨rfl, HH.out, HM.out⟩
  subst h0
  have HC := hid (hf a c W2 hq hb2)
  have HB2 := hid hb2
  have H1 := hid h1
  have HBY := hid hby
  have HK := hid hk
  have HCC := hid hc
  have hne : p ≠ w.heap.size := by omega
  have HNE := hid hne
  have hW2' := hW2.symm
  obtain ⟨ln, hln⟩ : ∃ x, l.length = x := ⟨_, rfl⟩
  have HLN := hid hln
  rw [hln] at c0 hW2' H1
  have HPG : Hid (∀ b, New W2 b → b ≠ p) := hid (fun b hb e => by have h9 : W2.heap.size ≤ b := hb; have h8 := hb2.size; omega)
  have HGP : Hid (w.heap.size ≠ p) := hid (fun e => hne e.symm)
  clear h1 hp2 hq hc hby hf h hW2 hk hln
  by_cases g0_ : R.e = 0
  · have e1 : ansR ⟨l, k, 0⟩ R = ⟨l, R.k, 0⟩ := by unfold ansR; simp [g0_]
    have e2 : ansV ⟨l, k, 0⟩ 0 R = R.v := by unfold ansV; simp [g0_]
    rw [e1, e2]
    rw [g0_] at he
    have HG := hid g0_
    clear e1 e2 he
    go_enter Try.func49, Try.ntmps49
    go_wp2_with (go_at_call 50
                 (try rw [hW2'])
                 refine HC.out.mono ?_
                 rintro e w3 ⟨rfl, hx3, hm3⟩
                 have hx3' := hx3 HG.out
                 have hb3 := hx3'.box
                 rw [HLN.out] at hb3
                 have hp3 := (hm3.block p (Nat.lt_of_lt_of_le hpl HB2.out.size) (fun e => HGP.out e.symm)).trans ((HB2.out.block p hpl).trans H1.out)
                 have d0 := cell_of hb3 (i := 0) (v := .slice a ln c) rfl
                 have d1 := cell_of hb3 (i := 1) (v := .int .i64 R.k) rfl
                 have d2 := cell_of hp3 (i := 0) (v := .slice a ln c) rfl
                 have d3 := cell_of hp3 (i := 1) (v := .int .i64 k) rfl
                 have f2 := froz_of hp3 0
                 have f3 := froz_of hp3 1
                 have hM3 : Mods (fun b => b = p) w w3 := (Mods.of_below (al := fun b => b = p) HB2.out).trans hm3 (fun b hb => .inr (by rw [hb]; exact Nat.le_refl _))
                 have hM4 := (hM3.setCell p 0 (.slice a ln c) rfl).setCell p 1 (.int .i64 R.k) rfl
                 have h4 := setc (setc hp3 0 (.slice a ln c)) 1 (.int .i64 R.k)
                 have HM4 := hid hM4
                 have H4 := hid h4
                 (try rw [HG.out])
                 skip
                 clear hx3 hx3' hb3 hp3 hM3 hM4 h4 hm3 c0 c1 c2)
    go_ret
    refine ⟨rfl, HH.out.turn (by rw [HLN.out]; have := HCC.out; rw [HLN.out] at this; exact this) HBY.out HM4.out rfl (HK.out HG.out) ?_, HM4.out⟩
    have h9 := H4.out
    simp only [HLN.out]
    simpa using h9
  · have e1 : ansR ⟨l, k, 0⟩ R = ⟨l, k, R.e⟩ := by unfold ansR; simp [g0_]
    have e2 : ansV ⟨l, k, 0⟩ 0 R = 0 := by unfold ansV; simp [g0_]
    rw [e1, e2]
    obtain ⟨E, hE⟩ : ∃ E, R.e = E := ⟨_, rfl⟩
    have HE := hid hE
    rw [hE] at g0_ he ⊢
    have hEE : (E != 0) = true := by simpa using g0_
    have HGN := hid g0_
    have HC' := HC
    clear e1 e2 g0_ hE he
    go_enter Try.func49, Try.ntmps49
    go_wp2_with (go_at_call 50
                 (try rw [hW2'])
                 refine HC.out.mono ?_
                 rintro e w3 ⟨rfl, hx3, hm3⟩
                 have hp3 := (hm3.block p (Nat.lt_of_lt_of_le hpl HB2.out.size) (fun e => HGP.out e.symm)).trans ((HB2.out.block p hpl).trans H1.out)
                 have d4 := cell_of hp3 (i := 2) (v := .int .i64 0) rfl
                 have f4 := froz_of hp3 2
                 have hM3 : Mods (fun b => b = p) w w3 := (Mods.of_below (al := fun b => b = p) HB2.out).trans hm3 (fun b hb => .inr (by rw [hb]; exact Nat.le_refl _))
                 have hM4 := hM3.setCell p 2 (.int .i64 E) rfl
                 have h4 := setc hp3 2 (.int .i64 E)
                 have HM4 := hid hM4
                 have H4 := hid h4
                 (try rw [HE.out])
                 clear hx3 hp3 hM3 hM4 h4 hm3 c0 c1 c2 HC HC')
    go_ret
    refine ⟨rfl, HH.out.turn (by rw [HLN.out]; have := HCC.out; rw [HLN.out] at this; exact this) HBY.out HM4.out rfl HH.out.hk ?_, HM4.out⟩
    have h9 := H4.out
    simp only [HLN.out]
    simpa using h9
set_option maxRecDepth 100000 in
set_option maxHeartbeats 4000000 in
theorem ans64_any {w : World} {X : Nat → Prop} {p : Nat} {r : Rd} (h : RX w 68 X p r) (R : Rs (Int)) (hk : R.e = 0 → R.k ≤ r.l.length) (he : R.e = 0 ∨ R.e = 1 ∨ R.e = 5 ∨ R.e = 11 ∨ R.e = 15)
    (hf : ∀ a c W, RQ W (fun b => X b ∨ b = w.heap.size) w.heap.size a c r.l r.k → Below w.heap.size w W → Calls Try.prog 53 #[.pointer (some ⟨w.heap.size, 0, none⟩)] W fun e w' => e = .returned (.tuple #[.int .u64 R.v, .int .i64 R.e]) ∧ (R.e = 0 → RQ w' (fun b => X b ∨ b = w.heap.size) w.heap.size a c r.l R.k) ∧ Mods (fun b => b = w.heap.size) W w') :
    Calls Try.prog 52 #[.pointer (some ⟨p, 0, none⟩), .func (.func 53) #[] #[]] w fun e w' => e = .returned (.int .u64 (ansV r 0 R)) ∧ RX w' 68 X p (ansR r R) ∧ Mods (fun b => b = p) w w' := by
  obtain ⟨a, c, W2, h1, hW2, hb2, hp2, hq, hc, hby⟩ := copy_row h
  have c0 := cell_of h1 (i := 0) (v := .slice a r.l.length c) rfl
  have c1 := cell_of h1 (i := 1) (v := .int .i64 r.k) rfl
  have c2 := cell_of h1 (i := 2) (v := .int .i64 r.e) rfl
  have HH := hid h
  have hpl := h.lt
  obtain ⟨l, k, er⟩ := r
  simp only at h1 hW2 hp2 hq hc hby c0 c1 c2 hk hf ⊢
  by_cases h0 : er = 0
  rotate_left
  · have hne : (er != 0) = true := by simpa using h0
    have e1 : ansR ⟨l, k, er⟩ R = ⟨l, k, er⟩ := by unfold ansR; rw [if_neg h0]
    have e2 : ansV ⟨l, k, er⟩ 0 R = 0 := by unfold ansV; rw [if_neg h0]
    rw [e1, e2]
    have HM := hid (Mods.refl (fun b => b = p) w)
    clear h1 hW2 hb2 hp2 hq hc hby c0 c1 e1 e2 hf h
    go_enter Try.func52, Try.ntmps52
    go_wp2
    go_ret
    exact ⟨rfl, HH.out, HM.out⟩
  subst h0
  have HC := hid (hf a c W2 hq hb2)
  have HB2 := hid hb2
  have H1 := hid h1
  have HBY := hid hby
  have HK := hid hk
  have HCC := hid hc
  have hne : p ≠ w.heap.size := by omega
  have HNE := hid hne
  have hW2' := hW2.symm
  obtain ⟨ln, hln⟩ : ∃ x, l.length = x := ⟨_, rfl⟩
  have HLN := hid hln
  rw [hln] at c0 hW2' H1
  have HPG : Hid (∀ b, New W2 b → b ≠ p) := hid (fun b hb e => by have h9 : W2.heap.size ≤ b := hb; have h8 := hb2.size; omega)
  have HGP : Hid (w.heap.size ≠ p) := hid (fun e => hne e.symm)
  clear h1 hp2 hq hc hby hf h hW2 hk hln
  by_cases g0_ : R.e = 0
  · have e1 : ansR ⟨l, k, 0⟩ R = ⟨l, R.k, 0⟩ := by unfold ansR; simp [g0_]
    have e2 : ansV ⟨l, k, 0⟩ 0 R = R.v := by unfold ansV; simp [g0_]
    rw [e1, e2]
    rw [g0_] at he
    have HG := hid g0_
    clear e1 e2 he
    go_enter Try.func52, Try.ntmps52
    go_wp2_with (go_at_call 53
                 (try rw [hW2'])
                 refine HC.out.mono ?_
                 rintro e w3 ⟨rfl, hx3, hm3⟩
                 have hx3' := hx3 HG.out
                 have hb3 := hx3'.box
                 rw [HLN.out] at hb3
                 have hp3 := (hm3.block p (Nat.lt_of_lt_of_le hpl HB2.out.size) (fun e => HGP.out e.symm)).trans ((HB2.out.block p hpl).trans H1.out)
                 have d0 := cell_of hb3 (i := 0) (v := .slice a ln c) rfl
                 have d1 := cell_of hb3 (i := 1) (v := .int .i64 R.k) rfl
                 have d2 := cell_of hp3 (i := 0) (v := .slice a ln c) rfl
                 have d3 := cell_of hp3 (i := 1) (v := .int .i64 k) rfl
                 have f2 := froz_of hp3 0
                 have f3 := froz_of hp3 1
                 have hM3 : Mods (fun b => b = p) w w3 := (Mods.of_below (al := fun b => b = p) HB2.out).trans hm3 (fun b hb => .inr (by rw [hb]; exact Nat.le_refl _))
                 have hM4 := (hM3.setCell p 0 (.slice a ln c) rfl).setCell p 1 (.int .i64 R.k) rfl
                 have h4 := setc (setc hp3 0 (.slice a ln c)) 1 (.int .i64 R.k)
                 have HM4 := hid hM4
                 have H4 := hid h4
                 (try rw [HG.out])
                 skip
                 clear hx3 hx3' hb3 hp3 hM3 hM4 h4 hm3 c0 c1 c2)
    go_ret
    refine ⟨rfl, HH.out.turn (by rw [HLN.out]; have := HCC.out; rw [HLN.out] at this; exact this) HBY.out HM4.out rfl (HK.out HG.out) ?_, HM4.out⟩
    have h9 := H4.out
    simp only [HLN.out]
    simpa using h9
  · have e1 : ansR ⟨l, k, 0⟩ R = ⟨l, k, R.e⟩ := by unfold ansR; simp [g0_]
    have e2 : ansV ⟨l, k, 0⟩ 0 R = 0 := by unfold ansV; simp [g0_]
    rw [e1, e2]
    obtain ⟨E, hE⟩ : ∃ E, R.e = E := ⟨_, rfl⟩
    have HE := hid hE
    rw [hE] at g0_ he ⊢
    have hEE : (E != 0) = true := by simpa using g0_
    have HGN := hid g0_
    have HC' := HC
    clear e1 e2 g0_ hE he
    go_enter Try.func52, Try.ntmps52
    go_wp2_with (go_at_call 53
                 (try rw [hW2'])
                 refine HC.out.mono ?_
                 rintro e w3 ⟨rfl, hx3, hm3⟩
                 have hp3 := (hm3.block p (Nat.lt_of_lt_of_le hpl HB2.out.size) (fun e => HGP.out e.symm)).trans ((HB2.out.block p hpl).trans H1.out)
                 have d4 := cell_of hp3 (i := 2) (v := .int .i64 0) rfl
                 have f4 := froz_of hp3 2
                 have hM3 : Mods (fun b => b = p) w w3 := (Mods.of_below (al := fun b => b = p) HB2.out).trans hm3 (fun b hb => .inr (by rw [hb]; exact Nat.le_refl _))
                 have hM4 := hM3.setCell p 2 (.int .i64 E) rfl
                 have h4 := setc hp3 2 (.int .i64 E)
                 have HM4 := hid hM4
                 have H4 := hid h4
                 (try rw [HE.out])
                 clear hx3 hp3 hM3 hM4 h4 hm3 c0 c1 c2 HC HC')
    go_ret
    refine ⟨rfl, HH.out.turn (by rw [HLN.out]; have := HCC.out; rw [HLN.out] at this; exact this) HBY.out HM4.out rfl HH.out.hk ?_, HM4.out⟩
    have h9 := H4.out
    simp only [HLN.out]
    simpa using h9
set_option maxRecDepth 100000 in
set_option maxHeartbeats 4000000 in
theorem ansT_any {w : World} {X : Nat → Prop} {p : Nat} {r : Rd} (h : RX w 68 X p r) (R : Rs (Bool)) (hk : R.e = 0 → R.k ≤ r.l.length) (he : R.e = 0 ∨ R.e = 1 ∨ R.e = 5 ∨ R.e = 11 ∨ R.e = 15)
    (hf : ∀ a c W, RQ W (fun b => X b ∨ b = w.heap.size) w.heap.size a c r.l r.k → Below w.heap.size w W → Calls Try.prog 55 #[.pointer (some ⟨w.heap.size, 0, none⟩)] W fun e w' => e = .returned (.tuple #[.bool R.v, .int .i64 R.e]) ∧ (R.e = 0 → RQ w' (fun b => X b ∨ b = w.heap.size) w.heap.size a c r.l R.k) ∧ Mods (fun b => b = w.heap.size) W w') :
    Calls Try.prog 54 #[.pointer (some ⟨p, 0, none⟩), .func (.func 55) #[] #[]] w fun e w' => e = .returned (.bool (ansV r false R)) ∧ RX w' 68 X p (ansR r R) ∧ Mods (fun b => b = p) w w' := by
  obtain ⟨a, c, W2, h1, hW2, hb2, hp2, hq, hc, hby⟩ := copy_row h
  have c0 := cell_of h1 (i := 0) (v := .slice a r.l.length c) rfl
  have c1 := cell_of h1 (i := 1) (v := .int .i64 r.k) rfl
  have c2 := cell_of h1 (i := 2) (v := .int .i64 r.e) rfl
  have HH := hid h
  have hpl := h.lt
  obtain ⟨l, k, er⟩ := r
  simp only at h1 hW2 hp2 hq hc hby c0 c1 c2 hk hf ⊢
  by_cases h0 : er = 0
  rotate_left
  · have hne : (er != 0) = true := by simpa using h0
    have e1 : ansR ⟨l, k, er⟩ R = ⟨l, k, er⟩ := by unfold ansR; rw [if_neg h0]
    have e2 : ansV ⟨l, k, er⟩ false R = false := by unfold ansV; rw [if_neg h0]
    rw [e1, e2]
    have HM := hid (Mods.refl (fun b => b = p) w)
    clear h1 hW2 hb2 hp2 hq hc hby c0 c1 e1 e2 hf h
    go_enter Try.func54, Try.ntmps54
    go_wp2
    go_ret
    exact ⟨rfl, HH.out, HM.out⟩
  subst h0
  have HC := hid (hf a c W2 hq hb2)
  have HB2 := hid hb2
  have H1 := hid h1
  have HBY := hid hby
  have HK := hid hk
  have HCC := hid hc
  have hne : p ≠ w.heap.size := by omega
  have HNE := hid hne
  have hW2' := hW2.symm
  obtain ⟨ln, hln⟩ : ∃ x, l.length = x := ⟨_, rfl⟩
  have HLN := hid hln
  rw [hln] at c0 hW2' H1
  have HPG : Hid (∀ b, New W2 b → b ≠ p) := hid (fun b hb e => by have h9 : W2.heap.size ≤ b := hb; have h8 := hb2.size; omega)
  have HGP : Hid (w.heap.size ≠ p) := hid (fun e => hne e.symm)
  clear h1 hp2 hq hc hby hf h hW2 hk hln
  by_cases g0_ : R.e = 0
  · have e1 : ansR ⟨l, k, 0⟩ R = ⟨l, R.k, 0⟩ := by unfold ansR; simp [g0_]
    have e2 : ansV ⟨l, k, 0⟩ false R = R.v := by unfold ansV; simp [g0_]
    rw [e1, e2]
    rw [g0_] at he
    have HG := hid g0_
    clear e1 e2 he
    go_enter Try.func54, Try.ntmps54
    go_wp2_with (go_at_call 55
                 (try rw [hW2'])
                 refine HC.out.mono ?_
                 rintro e w3 ⟨rfl, hx3, hm3⟩
                 have hx3' := hx3 HG.out
                 have hb3 := hx3'.box
                 rw [HLN.out] at hb3
                 have hp3 := (hm3.block p (Nat.lt_of_lt_of_le hpl HB2.out.size) (fun e => HGP.out e.symm)).trans ((HB2.out.block p hpl).trans H1.out)
                 have d0 := cell_of hb3 (i := 0) (v := .slice a ln c) rfl
                 have d1 := cell_of hb3 (i := 1) (v := .int .i64 R.k) rfl
                 have d2 := cell_of hp3 (i := 0) (v := .slice a ln c) rfl
                 have d3 := cell_of hp3 (i := 1) (v := .int .i64 k) rfl
                 have f2 := froz_of hp3 0
                 have f3 := froz_of hp3 1
                 have hM3 : Mods (fun b => b = p) w w3 := (Mods.of_below (al := fun b => b = p) HB2.out).trans hm3 (fun b hb => .inr (by rw [hb]; exact Nat.le_refl _))
                 have hM4 := (hM3.setCell p 0 (.slice a ln c) rfl).setCell p 1 (.int .i64 R.k) rfl
                 have h4 := setc (setc hp3 0 (.slice a ln c)) 1 (.int .i64 R.k)
                 have HM4 := hid hM4
                 have H4 := hid h4
                 (try rw [HG.out])
                 skip
                 clear hx3 hx3' hb3 hp3 hM3 hM4 h4 hm3 c0 c1 c2)
    go_ret
    refine ⟨rfl, HH.out.turn (by rw [HLN.out]; have := HCC.out; rw [HLN.out] at this; exact this) HBY.out HM4.out rfl (HK.out HG.out) ?_, HM4.out⟩
    have h9 := H4.out
    simp only [HLN.out]
    simpa using h9
  · have e1 : ansR ⟨l, k, 0⟩ R = ⟨l, k, R.e⟩ := by unfold ansR; simp [g0_]
    have e2 : ansV ⟨l, k, 0⟩ false R = false := by unfold ansV; simp [g0_]
    rw [e1, e2]
    obtain ⟨E, hE⟩ : ∃ E, R.e = E := ⟨_, rfl⟩
    have HE := hid hE
    rw [hE] at g0_ he ⊢
    have hEE : (E != 0) = true := by simpa using g0_
    have HGN := hid g0_
    have HC' := HC
    clear e1 e2 g0_ hE he
    go_enter Try.func54, Try.ntmps54
    go_wp2_with (go_at_call 55
                 (try rw [hW2'])
                 refine HC.out.mono ?_
                 rintro e w3 ⟨rfl, hx3, hm3⟩
                 have hp3 := (hm3.block p (Nat.lt_of_lt_of_le hpl HB2.out.size) (fun e => HGP.out e.symm)).trans ((HB2.out.block p hpl).trans H1.out)
                 have d4 := cell_of hp3 (i := 2) (v := .int .i64 0) rfl
                 have f4 := froz_of hp3 2
                 have hM3 : Mods (fun b => b = p) w w3 := (Mods.of_below (al := fun b => b = p) HB2.out).trans hm3 (fun b hb => .inr (by rw [hb]; exact Nat.le_refl _))
                 have hM4 := hM3.setCell p 2 (.int .i64 E) rfl
                 have h4 := setc hp3 2 (.int .i64 E)
                 have HM4 := hid hM4
                 have H4 := hid h4
                 (try rw [HE.out])
                 clear hx3 hp3 hM3 hM4 h4 hm3 c0 c1 c2 HC HC')
    go_ret
    refine ⟨rfl, HH.out.turn (by rw [HLN.out]; have := HCC.out; rw [HLN.out] at this; exact this) HBY.out HM4.out rfl HH.out.hk ?_, HM4.out⟩
    have h9 := H4.out
    simp only [HLN.out]
    simpa using h9
set_option maxRecDepth 100000 in
set_option maxHeartbeats 4000000 in
theorem ansB_any {w : World} {X : Nat → Prop} {p : Nat} {r : Rd} (h : RX w 68 X p r) (g0 : Nat) (R : Rs (List Int)) (hk : R.e = 0 → R.k ≤ r.l.length) (he : R.e = 0 ∨ R.e = 1 ∨ R.e = 5 ∨ R.e = 11 ∨ R.e = 15)
    (hf : ∀ a c W, RQ W (fun b => X b ∨ b = w.heap.size) w.heap.size a c r.l r.k → Below w.heap.size w W → Calls Try.prog 47 #[.pointer (some ⟨w.heap.size, 0, none⟩), .pointer (some ⟨g0, 0, none⟩)] W fun e w' => PadPost W (fun b => X b ∨ b = w.heap.size) w.heap.size a c r.l R e w') :
    Calls Try.prog 46 #[.pointer (some ⟨p, 0, none⟩), .func (.func 47) #[] #[.pointer (some ⟨g0, 0, none⟩)]] w fun e w' => (∃ a2 c2, e = .returned (.slice a2 (ansV r [] R).length c2) ∧ By w' (New w) a2 (ansV r [] R) ∧ (ansV r [] R).length ≤ c2) ∧ RX w' 68 X p (ansR r R) ∧ Mods (fun b => b = p) w w' := by
  obtain ⟨a, c, W2, h1, hW2, hb2, hp2, hq, hc, hby⟩ := copy_row h
  have c0 := cell_of h1 (i := 0) (v := .slice a r.l.length c) rfl
  have c1 := cell_of h1 (i := 1) (v := .int .i64 r.k) rfl
  have c2 := cell_of h1 (i := 2) (v := .int .i64 r.e) rfl
  have HH := hid h
  have hpl := h.lt
  obtain ⟨l, k, er⟩ := r
  simp only at h1 hW2 hp2 hq hc hby c0 c1 c2 hk hf ⊢
  by_cases h0 : er = 0
  rotate_left
  · have hne : (er != 0) = true := by simpa using h0
    have e1 : ansR ⟨l, k, er⟩ R = ⟨l, k, er⟩ := by unfold ansR; rw [if_neg h0]
    have e2 : ansV ⟨l, k, er⟩ [] R = [] := by unfold ansV; rw [if_neg h0]
    rw [e1, e2]
    have HM := hid (Mods.refl (fun b => b = p) w)
    clear h1 hW2 hb2 hp2 hq hc hby c0 c1 e1 e2 hf h
    go_enter Try.func46, Try.ntmps46
    go_wp2
    go_ret
    exact ⟨⟨none, 0, rfl, By.nil _ _ _, Nat.le_refl _⟩, HH.out, HM.out⟩
  subst h0
  have HC := hid (hf a c W2 hq hb2)
  have HB2 := hid hb2
  have H1 := hid h1
  have HBY := hid hby
  have HK := hid hk
  have HCC := hid hc
  have hne : p ≠ w.heap.size := by omega
  have HNE := hid hne
  have hW2' := hW2.symm
  obtain ⟨ln, hln⟩ : ∃ x, l.length = x := ⟨_, rfl⟩
  have HLN := hid hln
  rw [hln] at c0 hW2' H1
  have HPG : Hid (∀ b, New W2 b → b ≠ p) := hid (fun b hb e => by have h9 : W2.heap.size ≤ b := hb; have h8 := hb2.size; omega)
  have HGP : Hid (w.heap.size ≠ p) := hid (fun e => hne e.symm)
  clear h1 hp2 hq hc hby hf h hW2 hk hln
  by_cases g0_ : R.e = 0
  · have e1 : ansR ⟨l, k, 0⟩ R = ⟨l, R.k, 0⟩ := by unfold ansR; simp [g0_]
    have e2 : ansV ⟨l, k, 0⟩ [] R = R.v := by unfold ansV; simp [g0_]
    rw [e1, e2]
    rw [g0_] at he
    have HG := hid g0_
    clear e1 e2 he
    go_enter Try.func46, Try.ntmps46
    go_wp2_with (go_at_call 47
                 (try rw [hW2'])
                 refine HC.out.mono ?_
                 rintro e w3 ⟨a8, c8, rfl, hy3, hc3, hx3, hm3⟩
                 have hx3' := hx3 HG.out
                 have hb3 := hx3'.box
                 rw [HLN.out] at hb3
                 have hp3 := (hm3.block p (Nat.lt_of_lt_of_le hpl HB2.out.size) (fun e => HGP.out e.symm)).trans ((HB2.out.block p hpl).trans H1.out)
                 have d0 := cell_of hb3 (i := 0) (v := .slice a ln c) rfl
                 have d1 := cell_of hb3 (i := 1) (v := .int .i64 R.k) rfl
                 have d2 := cell_of hp3 (i := 0) (v := .slice a ln c) rfl
                 have d3 := cell_of hp3 (i := 1) (v := .int .i64 k) rfl
                 have f2 := froz_of hp3 0
                 have f3 := froz_of hp3 1
                 have hM3 : Mods (fun b => b = p) w w3 := (Mods.of_below (al := fun b => b = p) HB2.out).trans hm3 (fun b hb => .inr (by rw [hb]; exact Nat.le_refl _))
                 have hM4 := (hM3.setCell p 0 (.slice a ln c) rfl).setCell p 1 (.int .i64 R.k) rfl
                 have h4 := setc (setc hp3 0 (.slice a ln c)) 1 (.int .i64 R.k)
                 have HM4 := hid hM4
                 have H4 := hid h4
                 (try rw [HG.out])
                 have HY3 := hid hy3
                 have HC3 := hid hc3
                 have HMK := hid (((Mods.refl (fun b => b = p) w3).setCell p 0 (.slice a ln c) rfl).setCell p 1 (.int .i64 R.k) rfl)
                 clear hy3 hc3
                 clear hx3 hx3' hb3 hp3 hM3 hM4 h4 hm3 c0 c1 c2)
    go_ret
    refine ⟨⟨a8, c8, rfl, (HY3.out.keep (fun b hb hl => HMK.out.block b hl (HPG.out b hb))).weak (fun b hb _ => Nat.le_trans HB2.out.size hb), HC3.out⟩, HH.out.turn (by rw [HLN.out]; have := HCC.out; rw [HLN.out] at this; exact this) HBY.out HM4.out rfl (HK.out HG.out) ?_, HM4.out⟩
    have h9 := H4.out
    simp only [HLN.out]
    simpa using h9
  · have e1 : ansR ⟨l, k, 0⟩ R = ⟨l, k, R.e⟩ := by unfold ansR; simp [g0_]
    have e2 : ansV ⟨l, k, 0⟩ [] R = [] := by unfold ansV; simp [g0_]
    rw [e1, e2]
    obtain ⟨E, hE⟩ : ∃ E, R.e = E := ⟨_, rfl⟩
    have HE := hid hE
    rw [hE] at g0_ he ⊢
    have hEE : (E != 0) = true := by simpa using g0_
    have HGN := hid g0_
    have HC' := HC
    clear e1 e2 g0_ hE he
    go_enter Try.func46, Try.ntmps46
    go_wp2_with (go_at_call 47
                 (try rw [hW2'])
                 refine HC.out.mono ?_
                 rintro e w3 ⟨a8, c8, rfl, hy3, hc3, hx3, hm3⟩
                 have hp3 := (hm3.block p (Nat.lt_of_lt_of_le hpl HB2.out.size) (fun e => HGP.out e.symm)).trans ((HB2.out.block p hpl).trans H1.out)
                 have d4 := cell_of hp3 (i := 2) (v := .int .i64 0) rfl
                 have f4 := froz_of hp3 2
                 have hM3 : Mods (fun b => b = p) w w3 := (Mods.of_below (al := fun b => b = p) HB2.out).trans hm3 (fun b hb => .inr (by rw [hb]; exact Nat.le_refl _))
                 have hM4 := hM3.setCell p 2 (.int .i64 E) rfl
                 have h4 := setc hp3 2 (.int .i64 E)
                 have HM4 := hid hM4
                 have H4 := hid h4
                 (try rw [HE.out])
                 clear hx3 hp3 hM3 hM4 h4 hm3 c0 c1 c2 HC HC')
    go_ret
    refine ⟨⟨none, 0, rfl, By.nil _ _ _, Nat.le_refl _⟩, HH.out.turn (by rw [HLN.out]; have := HCC.out; rw [HLN.out] at this; exact this) HBY.out HM4.out rfl HH.out.hk ?_, HM4.out⟩
    have h9 := H4.out
    simp only [HLN.out]
    simpa using h9
set_option maxRecDepth 100000 in
set_option maxHeartbeats 4000000 in
theorem ansF_any {w : World} {X : Nat → Prop} {p : Nat} {r : Rd} (h : RX w 68 X p r) (g0 : Nat) (R : Rs (List Int)) (hk : R.e = 0 → R.k ≤ r.l.length) (he : R.e = 0 ∨ R.e = 1 ∨ R.e = 5 ∨ R.e = 11 ∨ R.e = 15)
    (hf : ∀ a c W, RQ W (fun b => X b ∨ b = w.heap.size) w.heap.size a c r.l r.k → Below w.heap.size w W → Calls Try.prog 57 #[.pointer (some ⟨w.heap.size, 0, none⟩), .pointer (some ⟨g0, 0, none⟩)] W fun e w' => PadPost W (fun b => X b ∨ b = w.heap.size) w.heap.size a c r.l R e w') :
    Calls Try.prog 46 #[.pointer (some ⟨p, 0, none⟩), .func (.func 57) #[] #[.pointer (some ⟨g0, 0, none⟩)]] w fun e w' => (∃ a2 c2, e = .returned (.slice a2 (ansV r [] R).length c2) ∧ By w' (New w) a2 (ansV r [] R) ∧ (ansV r [] R).length ≤ c2) ∧ RX w' 68 X p (ansR r R) ∧ Mods (fun b => b = p) w w' := by
  obtain ⟨a, c, W2, h1, hW2, hb2, hp2, hq, hc, hby⟩ := copy_row h
  have c0 := cell_of h1 (i := 0) (v := .slice a r.l.length c) rfl
  have c1 := cell_of h1 (i := 1) (v := .int .i64 r.k) rfl
  have c2 := cell_of h1 (i := 2) (v := .int .i64 r.e) rfl
  have HH := hid h
  have hpl := h.lt
  obtain ⟨l, k, er⟩ := r
  simp only at h1 hW2 hp2 hq hc hby c0 c1 c2 hk hf ⊢
  by_cases h0 : er = 0
  rotate_left
  · have hne : (er != 0) = true := by simpa using h0
    have e1 : ansR ⟨l, k, er⟩ R = ⟨l, k, er⟩ := by unfold ansR; rw [if_neg h0]
    have e2 : ansV ⟨l, k, er⟩ [] R = [] := by unfold ansV; rw [if_neg h0]
    rw [e1, e2]
    have HM := hid (Mods.refl (fun b => b = p) w)
    clear h1 hW2 hb2 hp2 hq hc hby c0 c1 e1 e2 hf h
    go_enter Try.func46, Try.ntmps46
    go_wp2
    go_ret
    exact ⟨⟨none, 0, rfl, By.nil _ _ _, Nat.le_refl _⟩, HH.out, HM.out⟩
  subst h0
  have HC := hid (hf a c W2 hq hb2)
  have HB2 := hid hb2
  have H1 := hid h1
  have HBY := hid hby
  have HK := hid hk
  have HCC := hid hc
  have hne : p ≠ w.heap.size := by omega
  have HNE := hid hne
  have hW2' := hW2.symm
  obtain ⟨ln, hln⟩ : ∃ x, l.length = x := ⟨_, rfl⟩
  have HLN := hid hln
  rw [hln] at c0 hW2' H1
  have HPG : Hid (∀ b, New W2 b → b ≠ p) := hid (fun b hb e => by have h9 : W2.heap.size ≤ b := hb; have h8 := hb2.size; omega)
  have HGP : Hid (w.heap.size ≠ p) := hid (fun e => hne e.symm)
  clear h1 hp2 hq hc hby hf h hW2 hk hln
  by_cases g0_ : R.e = 0
  · have e1 : ansR ⟨l, k, 0⟩ R = ⟨l, R.k, 0⟩ := by unfold ansR; simp [g0_]
    have e2 : ansV ⟨l, k, 0⟩ [] R = R.v := by unfold ansV; simp [g0_]
    rw [e1, e2]
    rw [g0_] at he
    have HG := hid g0_
    clear e1 e2 he
    go_enter Try.func46, Try.ntmps46
    go_wp2_with (go_at_call 57
                 (try rw [hW2'])
                 refine HC.out.mono ?_
                 rintro e w3 ⟨a8, c8, rfl, hy3, hc3, hx3, hm3⟩
                 have hx3' := hx3 HG.out
                 have hb3 := hx3'.box
                 rw [HLN.out] at hb3
                 have hp3 := (hm3.block p (Nat.lt_of_lt_of_le hpl HB2.out.size) (fun e => HGP.out e.symm)).trans ((HB2.out.block p hpl).trans H1.out)
                 have d0 := cell_of hb3 (i := 0) (v := .slice a ln c) rfl
                 have d1 := cell_of hb3 (i := 1) (v := .int .i64 R.k) rfl
                 have d2 := cell_of hp3 (i := 0) (v := .slice a ln c) rfl
                 have d3 := cell_of hp3 (i := 1) (v := .int .i64 k) rfl
                 have f2 := froz_of hp3 0
                 have f3 := froz_of hp3 1
                 have hM3 : Mods (fun b => b = p) w w3 := (Mods.of_below (al := fun b => b = p) HB2.out).trans hm3 (fun b hb => .inr (by rw [hb]; exact Nat.le_refl _))
                 have hM4 := (hM3.setCell p 0 (.slice a ln c) rfl).setCell p 1 (.int .i64 R.k) rfl
                 have h4 := setc (setc hp3 0 (.slice a ln c)) 1 (.int .i64 R.k)
                 have HM4 := hid hM4
                 have H4 := hid h4
                 (try rw [HG.out])
                 have HY3 := hid hy3
                 have HC3 := hid hc3
                 have HMK := hid (((Mods.refl (fun b => b = p) w3).setCell p 0 (.slice a ln c) rfl).setCell p 1 (.int .i64 R.k) rfl)
                 clear hy3 hc3
                 clear hx3 hx3' hb3 hp3 hM3 hM4 h4 hm3 c0 c1 c2)
    go_ret
    refine ⟨⟨a8, c8, rfl, (HY3.out.keep (fun b hb hl => HMK.out.block b hl (HPG.out b hb))).weak (fun b hb _ => Nat.le_trans HB2.out.size hb), HC3.out⟩, HH.out.turn (by rw [HLN.out]; have := HCC.out; rw [HLN.out] at this; exact this) HBY.out HM4.out rfl (HK.out HG.out) ?_, HM4.out⟩
    have h9 := H4.out
    simp only [HLN.out]
    simpa using h9
  · have e1 : ansR ⟨l, k, 0⟩ R = ⟨l, k, R.e⟩ := by unfold ansR; simp [g0_]
    have e2 : ansV ⟨l, k, 0⟩ [] R = [] := by unfold ansV; simp [g0_]
    rw [e1, e2]
    obtain ⟨E, hE⟩ : ∃ E, R.e = E := ⟨_, rfl⟩
    have HE := hid hE
    rw [hE] at g0_ he ⊢
    have hEE : (E != 0) = true := by simpa using g0_
    have HGN := hid g0_
    have HC' := HC
    clear e1 e2 g0_ hE he
    go_enter Try.func46, Try.ntmps46
    go_wp2_with (go_at_call 57
                 (try rw [hW2'])
                 refine HC.out.mono ?_
                 rintro e w3 ⟨a8, c8, rfl, hy3, hc3, hx3, hm3⟩
                 have hp3 := (hm3.block p (Nat.lt_of_lt_of_le hpl HB2.out.size) (fun e => HGP.out e.symm)).trans ((HB2.out.block p hpl).trans H1.out)
                 have d4 := cell_of hp3 (i := 2) (v := .int .i64 0) rfl
                 have f4 := froz_of hp3 2
                 have hM3 : Mods (fun b => b = p) w w3 := (Mods.of_below (al := fun b => b = p) HB2.out).trans hm3 (fun b hb => .inr (by rw [hb]; exact Nat.le_refl _))
                 have hM4 := hM3.setCell p 2 (.int .i64 E) rfl
                 have h4 := setc hp3 2 (.int .i64 E)
                 have HM4 := hid hM4
                 have H4 := hid h4
                 (try rw [HE.out])
                 clear hx3 hp3 hM3 hM4 h4 hm3 c0 c1 c2 HC HC')
    go_ret
    refine ⟨⟨none, 0, rfl, By.nil _ _ _, Nat.le_refl _⟩, HH.out.turn (by rw [HLN.out]; have := HCC.out; rw [HLN.out] at this; exact this) HBY.out HM4.out rfl HH.out.hk ?_, HM4.out⟩
    have h9 := H4.out
    simp only [HLN.out]
    simpa using h9
end Go.Proofs.Yteeakkpbpffohaa
