/- XdD, XdE in one text. -/
import Derived.Test.YtbfdkbdjipiliaaDoorXdC
/- Reading: bytes whose count stands ahead of them; the reader itself. -/
namespace Go.Proofs.YtbfdkbdjipiliaaDoor
open Go.RowKit Go.Maps
set_option linter.unusedVariables false

def cntP (l : List Int) (k : Nat) (most : Int) : Rs (List Int) := match numQ l k 4 with | none => ⟨[], 11, k⟩ | some v => if most < v then ⟨[], 5, k⟩ else fixP l (k + 4) v
theorem numQ_in {l : List Int} {k n : Nat} {v : Int} (h : numQ l k n = some v) : k + n ≤ l.length := by
  unfold numQ at h
  split at h
  · assumption
  · cases h
section
variable {w : World} {X : Nat → Prop} {q : Nat} {a : Option Addr} {c : Nat} {l : List Int} {k : Nat}
set_option maxRecDepth 100000 in
set_option maxHeartbeats 4000000 in
theorem rcounted_any (h : RQ w X q a c l k) (hk : k ≤ l.length) (most : Int) (hm : -9223372036854775808 ≤ most ∧ most ≤ 9223372036854775807) :
    Calls Tryd.prog 66 #[.pointer (some ⟨q, 0, none⟩), .int .i64 most] w fun e w' => PadPost w X q a c l (cntP l k most) e w' := by
  have HC := hid (rnumber_any h (Nat.le_trans hk h.hl) 4 (.inl rfl) 4 rfl)
  have hI := h.bytes.isB
  unfold cntP
  cases hq : numQ l k 4 with
  | none =>
    rw [hq] at HC
    simp only [Option.getD_none, Option.isSome_none, Bool.false_eq_true, if_false] at HC
    clear h hq hI
    go_enter Tryd.func66, Tryd.ntmps66
    go_wp2_with (go_at_call 63; refine HC.out.mono ?_; rintro e w2 ⟨rfl, hx, hm⟩; have HX := hid hx; have HM := hid hm; clear hx hm)
    go_ret2
    exact PadPost.err (by decide) HM.out
  | some v =>
    have hv := numQ_bd hq hI
    have HIN := hid (numQ_in hq)
    rw [hq] at HC
    simp only [Option.getD_some, Option.isSome_some, if_true] at HC
    have hw64 : IntKind.i64.wrap v = v := IntWalk.i64_in _ (by omega)
    have HLL := hid h.hl
    clear h hq hI
    by_cases hgt : most < v
    · simp only [hgt, if_true]
      go_enter Tryd.func66, Tryd.ntmps66
      go_wp2_with (go_at_call 63; refine HC.out.mono ?_; rintro e w2 ⟨rfl, hx, hm⟩; have HX := hid hx; have HM := hid hm; clear hx hm)
      go_ret2
      exact PadPost.err (by decide) HM.out
    · simp only [hgt, if_false]
      obtain ⟨R, hR⟩ : ∃ R, fixP l (k + 4) v = R := ⟨_, rfl⟩
      have HP : Hid (∀ W, RQ W X q a c l (k + 4) → Calls Tryd.prog 70 #[.pointer (some ⟨q, 0, none⟩), .int .i64 v] W fun e w' => PadPost W X q a c l R e w') := hid (fun W hW => by
        have := rpadded_any hW HIN.out v (by omega)
        rwa [hR] at this)
      rw [hR]
      have HV := hid hv
      clear hR hv
      go_enter Tryd.func66, Tryd.ntmps66
      go_wp2_with (first
        | (go_at_call 63; refine HC.out.mono ?_; rintro e w2 ⟨rfl, hx, hm⟩; have HX := hid hx; have HM := hid hm; clear hx hm HC)
        | (go_at_call 70; refine (HP.out _ HX.out).mono ?_; rintro e w3 ⟨a2, c2, rfl, hy, hc2, hz, hm3⟩; have HY := hid hy; have HZ := hid hz; have HM3 := hid hm3; clear hy hz hm3))
      go_ret2
      exact ⟨a2, c2, rfl, HY.out.weak (fun b hb _ => Nat.le_trans HM.out.size hb), hc2, HZ.out, HM.out.tr HM3.out⟩
end
/-- A reader: its bytes, its place, its error. -/
structure Rd where
  l : List Int
  k : Nat
  e : Int
/-- A reader of type T in block p; X: what may turn. -/
structure RX (w : World) (T : TypeId) (X : Nat → Prop) (p : Nat) (r : Rd) : Prop where
  box : ∃ a c, w.heap[p]? = some (.cells #[.slice a r.l.length c, .int .i64 r.k, .int .i64 r.e] T (0, 0)) ∧ r.l.length ≤ c ∧ ∀ W, Mods X w W → Bytes W a r.l
  xp : X p
  hk : r.k ≤ r.l.length
  hl : r.l.length ≤ 900000
/-- What a call answers, and what it makes of the reader. -/
def ansV {α : Type} (r : Rd) (z : α) (R : Rs α) : α := if r.e = 0 then (if R.e = 0 then R.v else z) else z
def ansR {α : Type} (r : Rd) (R : Rs α) : Rd := if r.e = 0 then (if R.e = 0 then ⟨r.l, R.k, 0⟩ else ⟨r.l, r.k, R.e⟩) else r
section
variable {w w' : World} {T : TypeId} {X : Nat → Prop} {p : Nat} {r : Rd}
theorem RX.lt (h : RX w T X p r) : p < w.heap.size := let ⟨_, _, h1, _⟩ := h.box; (Array.getElem?_eq_some_iff.1 h1).1
/-- Another's call. -/
theorem RX.beside {X' : Nat → Prop} (h : RX w T X p r) (hm : Mods X' w w') (hs : ∀ b, X' b → X b) (hp : ¬ X' p) : RX w' T X p r := by
  obtain ⟨a, c, h1, h2, h3⟩ := h.box
  exact ⟨⟨a, c, (hm.block p h.lt hp).trans h1, h2, fun W hW => h3 W ((hm.weak (al' := X) (fun b hb => .inl (hs b hb))).tr hW)⟩, h.xp, h.hk, h.hl⟩
theorem RX.later (h : RX w T X p r) (hb : Below w.heap.size w w') : RX w' T X p r := h.beside (X' := fun _ => False) (Mods.of_below hb) (fun _ hb => hb.elim) (fun hb => hb)
theorem RX.turn {r' : Rd} {a : Option Addr} {c : Nat} (h : RX w T X p r) (h1 : r.l.length ≤ c) (h2 : ∀ W, Mods X w W → Bytes W a r.l) (hm : Mods (fun b => b = p) w w') (hl : r'.l = r.l) (hk : r'.k ≤ r.l.length) (hb : w'.heap[p]? = some (.cells #[.slice a r.l.length c, .int .i64 r'.k, .int .i64 r'.e] T (0, 0))) : RX w' T X p r' := by
  refine ⟨⟨a, c, by rw [hl]; exact hb, by rw [hl]; exact h1, fun W hW => ?_⟩, h.xp, by rw [hl]; exact hk, by rw [hl]; exact h.hl⟩
  rw [hl]
  exact h2 W ((hm.weak (al' := X) (fun b hb => .inl (by rw [hb]; exact h.xp))).tr hW)
end
end Go.Proofs.YtbfdkbdjipiliaaDoor

/- The program's reader: its calls. -/
namespace Go.Proofs.YtbfdkbdjipiliaaDoor
open Go.RowKit Go.Maps
set_option linter.unusedVariables false

/-- A copy of the reader's row in a new block. -/
theorem copy_row {w : World} {X : Nat → Prop} {p : Nat} {r : Rd} (h : RX w 103 X p r) : ∃ a c W2, w.heap[p]? = some (.cells #[.slice a r.l.length c, .int .i64 r.k, .int .i64 r.e] 103 (0, 0)) ∧
    W2 = w.alloc (.cells #[.slice a r.l.length c, .int .i64 r.k] 101) ∧
    Below w.heap.size w W2 ∧ W2.heap[p]? = w.heap[p]? ∧ RQ W2 (fun b => X b ∨ b = w.heap.size) w.heap.size a c r.l r.k ∧ r.l.length ≤ c ∧ (∀ W, Mods X w W → Bytes W a r.l) := by
  obtain ⟨a, c, h1, h2, h3⟩ := h.box
  have hb : Below w.heap.size w (w.alloc (.cells #[.slice a r.l.length c, .int .i64 r.k] 101)) := below_alloc (Below.refl _ _) (Nat.le_refl _) _
  refine ⟨a, c, _, h1, rfl, hb, hb.block p h.lt, ⟨alloc_new w _, .inr rfl, fun W hW => h3 W ?_, h2, h.hl⟩, h2, h3⟩
  exact (Mods.of_below (al := X) hb).trans hW (fun b hb2 => hb2.imp id (fun e => by rw [e]; exact Nat.le_refl _))
set_option maxRecDepth 100000 in
set_option maxHeartbeats 4000000 in
theorem ans32_any {w : World} {X : Nat → Prop} {p : Nat} {r : Rd} (h : RX w 103 X p r) (R : Rs (Int)) (hk : R.e = 0 → R.k ≤ r.l.length) (he : R.e = 0 ∨ R.e = 1 ∨ R.e = 5 ∨ R.e = 11 ∨ R.e = 15)
    (hf : ∀ a c W, RQ W (fun b => X b ∨ b = w.heap.size) w.heap.size a c r.l r.k → Below w.heap.size w W → Calls Tryd.prog 52 #[.pointer (some ⟨w.heap.size, 0, none⟩)] W fun e w' => e = .returned (.tuple #[.int .u32 R.v, .int .i64 R.e]) ∧ (R.e = 0 → RQ w' (fun b => X b ∨ b = w.heap.size) w.heap.size a c r.l R.k) ∧ Mods (fun b => b = w.heap.size) W w') :
    Calls Tryd.prog 51 #[.pointer (some ⟨p, 0, none⟩), .func (.func 52) #[] #[]] w fun e w' => e = .returned (.int .u32 (ansV r 0 R)) ∧ RX w' 103 X p (ansR r R) ∧ Mods (fun b => b = p) w w' := by
  obtain ⟨a, c, W2, h1, hW2, hb2, hp2, hq, hc, hby⟩ := copy_row h
  have c0 := cell_of h1 (i := 0) (v := .slice a r.l.length c) rfl
  have c1 := cell_of h1 (i := 1) (v := .int .i64 r.k) rfl
  have c2 := cell_of h1 (i := 2) (v := .int .i64 r.e) rfl
  have HH := hid h
  have hpl := h.lt
  obtain ⟨l, k, er⟩ := r
  simp only at h1 hW2 hp2 hq hc hby c0 c1 c2 hk hf ⊢
  by_cases h0 : er = 0
  rotate_left
  · have hne : (er != 0) = true := by simpa using h0
    have e1 : ansR ⟨l, k, er⟩ R = ⟨l, k, er⟩ := by unfold ansR; rw [if_neg h0]
    have e2 : ansV ⟨l, k, er⟩ 0 R = 0 := by unfold ansV; rw [if_neg h0]
    rw [e1, e2]
    have HM := hid (Mods.refl (fun b => b = p) w)
    clear h1 hW2 hb2 hp2 hq hc hby c0 c1 e1 e2 hf h
    go_enter Tryd.func51, Tryd.ntmps51
    go_wp2
    go_ret
    exact ⟨rfl, HH.out, HM.out⟩
  subst h0
  have HC := hid (hf a c W2 hq hb2)
  have HB2 := hid hb2
  have H1 := hid h1
  have HBY := hid hby
  have HK := hid hk
  have HCC := hid hc
  have hne : p ≠ w.heap.size := by omega
  have HNE := hid hne
  have hW2' := hW2.symm
  obtain ⟨ln, hln⟩ : ∃ x, l.length = x := ⟨_, rfl⟩
  have HLN := hid hln
  rw [hln] at c0 hW2' H1
  have HPG : Hid (∀ b, New W2 b → b ≠ p) := hid (fun b hb e => by have h9 : W2.heap.size ≤ b := hb; have h8 := hb2.size; omega)
  have HGP : Hid (w.heap.size ≠ p) := hid (fun e => hne e.symm)
  clear h1 hp2 hq hc hby hf h hW2 hk hln
  by_cases g0_ : R.e = 0
  · have e1 : ansR ⟨l, k, 0⟩ R = ⟨l, R.k, 0⟩ := by unfold ansR; simp [g0_]
    have e2 : ansV ⟨l, k, 0⟩ 0 R = R.v := by unfold ansV; simp [g0_]
    rw [e1, e2]
    rw [g0_] at he
    have HG := hid g0_
    clear e1 e2 he
    go_enter Tryd.func51, Tryd.ntmps51
    go_wp2_with (go_at_call 52
                 (try rw [hW2'])
                 refine HC.out.mono ?_
                 rintro e w3 ⟨rfl, hx3, hm3⟩
                 have hx3' := hx3 HG.out
                 have hb3 := hx3'.box
                 rw [HLN.out] at hb3
                 have hp3 := (hm3.block p (Nat.lt_of_lt_of_le hpl HB2.out.size) (fun e => HGP.out e.symm)).trans ((HB2.out.block p hpl).trans H1.out)
                 have d0 := cell_of hb3 (i := 0) (v := .slice a ln c) rfl
                 have d1 := cell_of hb3 (i := 1) (v := .int .i64 R.k) rfl
                 have d2 := cell_of hp3 (i := 0) (v := .slice a ln c) rfl
                 have d3 := cell_of hp3 (i := 1) (v := .int .i64 k) rfl
                 have f2 := froz_of hp3 0
                 have f3 := froz_of hp3 1
                 have hM3 : Mods (fun b => b = p) w w3 := (Mods.of_below (al := fun b => b = p) HB2.out).trans hm3 (fun b hb => .inr (by rw [hb]; exact Nat.le_refl _))
                 have hM4 := (hM3.setCell p 0 (.slice a ln c) rfl).setCell p 1 (.int .i64 R.k) rfl
                 have h4 := setc (setc hp3 0 (.slice a ln c)) 1 (.int .i64 R.k)
                 have HM4 := hid hM4
                 have H4 := hid h4
                 (try rw [HG.out])
                 skip
                 clear hx3 hx3' hb3 hp3 hM3 hM4 h4 hm3 c0 c1 c2)
    go_ret
    refine ⟨rfl, HH.out.turn (by rw [HLN.out]; have := HCC.out; rw [HLN.out] at this; exact this) HBY.out HM4.out rfl (HK.out HG.out) ?_, HM4.out⟩
    have h9 := H4.out
    simp only [HLN.out]
    simpa using h9
  · have e1 : ansR ⟨l, k, 0⟩ R = ⟨l, k, R.e⟩ := by unfold ansR; simp [g0_]
    have e2 : ansV ⟨l, k, 0⟩ 0 R = 0 := by unfold ansV; simp [g0_]
    rw [e1, e2]
    obtain ⟨E, hE⟩ : ∃ E, R.e = E := ⟨_, rfl⟩
    have HE := hid hE
    rw [hE] at g0_ he ⊢
    have hEE : (E != 0) = true := by simpa using g0_
    have HGN := hid g0_
    have HC' := HC
    clear e1 e2 g0_ hE he
    go_enter Tryd.func51, Tryd.ntmps51
    go_wp2_with (go_at_call 52
                 (try rw [hW2'])
                 refine HC.out.mono ?_
                 rintro e w3 ⟨rfl, hx3, hm3⟩
                 have hp3 := (hm3.block p (Nat.lt_of_lt_of_le hpl HB2.out.size) (fun e => HGP.out e.symm)).trans ((HB2.out.block p hpl).trans H1.out)
                 have d4 := cell_of hp3 (i := 2) (v := .int .i64 0) rfl
                 have f4 := froz_of hp3 2
                 have hM3 : Mods (fun b => b = p) w w3 := (Mods.of_below (al := fun b => b = p) HB2.out).trans hm3 (fun b hb => .inr (by rw [hb]; exact Nat.le_refl _))
                 have hM4 := hM3.setCell p 2 (.int .i64 E) rfl
                 have h4 := setc hp3 2 (.int .i64 E)
                 have HM4 := hid hM4
                 have H4 := hid h4
                 (try rw [HE.out])
                 clear hx3 hp3 hM3 hM4 h4 hm3 c0 c1 c2 HC HC')
    go_ret
    refine ⟨rfl, HH.out.turn (by rw [HLN.out]; have := HCC.out; rw [HLN.out] at this; exact this) HBY.out HM4.out rfl HH.out.hk ?_, HM4.out⟩
    have h9 := H4.out
    simp only [HLN.out]
    simpa using h9
set_option maxRecDepth 100000 in
set_option maxHeartbeats 4000000 in
theorem ansB_any {w : World} {X : Nat → Prop} {p : Nat} {r : Rd} (h : RX w 103 X p r) (g0 : Nat) (R : Rs (List Int)) (hk : R.e = 0 → R.k ≤ r.l.length) (he : R.e = 0 ∨ R.e = 1 ∨ R.e = 5 ∨ R.e = 11 ∨ R.e = 15)
    (hf : ∀ a c W, RQ W (fun b => X b ∨ b = w.heap.size) w.heap.size a c r.l r.k → Below w.heap.size w W → Calls Tryd.prog 65 #[.pointer (some ⟨w.heap.size, 0, none⟩), .pointer (some ⟨g0, 0, none⟩)] W fun e w' => PadPost W (fun b => X b ∨ b = w.heap.size) w.heap.size a c r.l R e w') :
    Calls Tryd.prog 64 #[.pointer (some ⟨p, 0, none⟩), .func (.func 65) #[] #[.pointer (some ⟨g0, 0, none⟩)]] w fun e w' => (∃ a2 c2, e = .returned (.slice a2 (ansV r [] R).length c2) ∧ By w' (New w) a2 (ansV r [] R) ∧ (ansV r [] R).length ≤ c2) ∧ RX w' 103 X p (ansR r R) ∧ Mods (fun b => b = p) w w' := by
  obtain ⟨a, c, W2, h1, hW2, hb2, hp2, hq, hc, hby⟩ := copy_row h
  have c0 := cell_of h1 (i := 0) (v := .slice a r.l.length c) rfl
  have c1 := cell_of h1 (i := 1) (v := .int .i64 r.k) rfl
  have c2 := cell_of h1 (i := 2) (v := .int .i64 r.e) rfl
  have HH := hid h
  have hpl := h.lt
  obtain ⟨l, k, er⟩ := r
  simp only at h1 hW2 hp2 hq hc hby c0 c1 c2 hk hf ⊢
  by_cases h0 : er = 0
  rotate_left
  · have hne : (er != 0) = true := by simpa using h0
    have e1 : ansR ⟨l, k, er⟩ R = ⟨l, k, er⟩ := by unfold ansR; rw [if_neg h0]
    have e2 : ansV ⟨l, k, er⟩ [] R = [] := by unfold ansV; rw [if_neg h0]
    rw [e1, e2]
    have HM := hid (Mods.refl (fun b => b = p) w)
    clear h1 hW2 hb2 hp2 hq hc hby c0 c1 e1 e2 hf h
    go_enter Tryd.func64, Tryd.ntmps64
    go_wp2
    go_ret
    exact ⟨⟨none, 0, rfl, By.nil _ _ _, Nat.le_refl _⟩, HH.out, HM.out⟩
  subst h0
  have HC := hid (hf a c W2 hq hb2)
  have HB2 := hid hb2
  have H1 := hid h1
  have HBY := hid hby
  have HK := hid hk
  have HCC := hid hc
  have hne : p ≠ w.heap.size := by omega
  have HNE := hid hne
  have hW2' := hW2.symm
  obtain ⟨ln, hln⟩ : ∃ x, l.length = x := ⟨_, rfl⟩
  have HLN := hid hln
  rw [hln] at c0 hW2' H1
  have HPG : Hid (∀ b, New W2 b → b ≠ p) := hid (fun b hb e => by have h9 : W2.heap.size ≤ b := hb; have h8 := hb2.size; omega)
  have HGP : Hid (w.heap.size ≠ p) := hid (fun e => hne e.symm)
  clear h1 hp2 hq hc hby hf h hW2 hk hln
  by_cases g0_ : R.e = 0
  · have e1 : ansR ⟨l, k, 0⟩ R = ⟨l, R.k, 0⟩ := by unfold ansR; simp [g0_]
    have e2 : ansV ⟨l, k, 0⟩ [] R = R.v := by unfold ansV; simp [g0_]
    rw [e1, e2]
    rw [g0_] at he
    have HG := hid g0_
    clear e1 e2 he
    go_enter Tryd.func64, Tryd.ntmps64
    go_wp2_with (go_at_call 65
                 (try rw [hW2'])
                 refine HC.out.mono ?_
                 rintro e w3 ⟨a8, c8, rfl, hy3, hc3, hx3, hm3⟩
                 have hx3' := hx3 HG.out
                 have hb3 := hx3'.box
                 rw [HLN.out] at hb3
                 have hp3 := (hm3.block p (Nat.lt_of_lt_of_le hpl HB2.out.size) (fun e => HGP.out e.symm)).trans ((HB2.out.block p hpl).trans H1.out)
                 have d0 := cell_of hb3 (i := 0) (v := .slice a ln c) rfl
                 have d1 := cell_of hb3 (i := 1) (v := .int .i64 R.k) rfl
                 have d2 := cell_of hp3 (i := 0) (v := .slice a ln c) rfl
                 have d3 := cell_of hp3 (i := 1) (v := .int .i64 k) rfl
                 have f2 := froz_of hp3 0
                 have f3 := froz_of hp3 1
                 have hM3 : Mods (fun b => b = p) w w3 := (Mods.of_below (al := fun b => b = p) HB2.out).trans hm3 (fun b hb => .inr (by rw [hb]; exact Nat.le_refl _))
                 have hM4 := (hM3.setCell p 0 (.slice a ln c) rfl).setCell p 1 (.int .i64 R.k) rfl
                 have h4 := setc (setc hp3 0 (.slice a ln c)) 1 (.int .i64 R.k)
                 have HM4 := hid hM4
                 have H4 := hid h4
                 (try rw [HG.out])
                 have HY3 := hid hy3
                 have HC3 := hid hc3
                 have HMK := hid (((Mods.refl (fun b => b = p) w3).setCell p 0 (.slice a ln c) rfl).setCell p 1 (.int .i64 R.k) rfl)
                 clear hy3 hc3
                 clear hx3 hx3' hb3 hp3 hM3 hM4 h4 hm3 c0 c1 c2)
    go_ret
    refine ⟨⟨a8, c8, rfl, (HY3.out.keep (fun b hb hl => HMK.out.block b hl (HPG.out b hb))).weak (fun b hb _ => Nat.le_trans HB2.out.size hb), HC3.out⟩, HH.out.turn (by rw [HLN.out]; have := HCC.out; rw [HLN.out] at this; exact this) HBY.out HM4.out rfl (HK.out HG.out) ?_, HM4.out⟩
    have h9 := H4.out
    simp only [HLN.out]
    simpa using h9
  · have e1 : ansR ⟨l, k, 0⟩ R = ⟨l, k, R.e⟩ := by unfold ansR; simp [g0_]
    have e2 : ansV ⟨l, k, 0⟩ [] R = [] := by unfold ansV; simp [g0_]
    rw [e1, e2]
    obtain ⟨E, hE⟩ : ∃ E, R.e = E := ⟨_, rfl⟩
    have HE := hid hE
    rw [hE] at g0_ he ⊢
    have hEE : (E != 0) = true := by simpa using g0_
    have HGN := hid g0_
    have HC' := HC
    clear e1 e2 g0_ hE he
    go_enter Tryd.func64, Tryd.ntmps64
    go_wp2_with (go_at_call 65
                 (try rw [hW2'])
                 refine HC.out.mono ?_
                 rintro e w3 ⟨a8, c8, rfl, hy3, hc3, hx3, hm3⟩
                 have hp3 := (hm3.block p (Nat.lt_of_lt_of_le hpl HB2.out.size) (fun e => HGP.out e.symm)).trans ((HB2.out.block p hpl).trans H1.out)
                 have d4 := cell_of hp3 (i := 2) (v := .int .i64 0) rfl
                 have f4 := froz_of hp3 2
                 have hM3 : Mods (fun b => b = p) w w3 := (Mods.of_below (al := fun b => b = p) HB2.out).trans hm3 (fun b hb => .inr (by rw [hb]; exact Nat.le_refl _))
                 have hM4 := hM3.setCell p 2 (.int .i64 E) rfl
                 have h4 := setc hp3 2 (.int .i64 E)
                 have HM4 := hid hM4
                 have H4 := hid h4
                 (try rw [HE.out])
                 clear hx3 hp3 hM3 hM4 h4 hm3 c0 c1 c2 HC HC')
    go_ret
    refine ⟨⟨none, 0, rfl, By.nil _ _ _, Nat.le_refl _⟩, HH.out.turn (by rw [HLN.out]; have := HCC.out; rw [HLN.out] at this; exact this) HBY.out HM4.out rfl HH.out.hk ?_, HM4.out⟩
    have h9 := H4.out
    simp only [HLN.out]
    simpa using h9
end Go.Proofs.YtbfdkbdjipiliaaDoor
