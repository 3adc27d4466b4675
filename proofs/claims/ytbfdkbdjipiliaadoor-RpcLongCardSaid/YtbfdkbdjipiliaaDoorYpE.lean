/- Records: a piece ends. -/
import Derived.Test.YtbfdkbdjipiliaaDoorYpD
import Derived.Test.YtbfdkbdjipiliaaDoorYgC
import Derived.Test.YtbfdkbdjipiliaaDoorYiD
namespace Go.Proofs.YtbfdkbdjipiliaaDoor
open Go.RowKit Go.Maps
set_option linter.unusedVariables false

section
variable {w w' : World} {p : Nat} {S S' : Nat → Prop} {s : Pc} {vm vr : Value}
/-- A new piece begins: the record is as it was. -/
theorem RcX.piece (h : RcX w p S s vm vr) (hm : Mods (fun b => b = p) w w') {s' : Pc} (hb : w'.heap[p]? = some (.cells #[.slice none 0 0, .int .i64 s'.lf, .bool s'.la, vr, .bool s'.dd] 60 (0, 0))) (e1 : s'.mr = []) (e2 : s'.b = s.b) : RcX w' p S s' (.slice none 0 0) vr :=
  ⟨hb, by rw [e1]; exact RW.nil _ _ _, by rw [e2]; exact h.rr.keep (fun b hb2 => hm.block b (h.rr.lt hb2) (h.nop h.rr hb2)), by rw [e1]; simp, by rw [e2]; exact h.ib, fun b hb => by simp [blkV] at hb, h.sp, fun b hb => by simp [blkV] at hb, h.sr, fun b hb2 => Nat.lt_of_lt_of_le (h.slt b hb2) hm.size⟩
end
/-- What endPiece gives and leaves. -/
def EndP (w : World) (p : Nat) (S : Nat → Prop) (s : Pc) (e : Ending) (w' : World) : Prop :=
  ∃ S', RcAt w' p S' (enS s) ∧ Kp S w S' w' ∧ ((s.la = false ∧ e = .returned (.slice none 0 0)) ∨ (s.la = true ∧ ∃ g ar cr, e = .returned (.slice (some ⟨g, 0, none⟩) 1 1) ∧ w.heap.size ≤ g ∧ ¬ S' g ∧ w'.heap[g]? = some (.cells #[.slice ar s.b.length cr] 27 (0, 0)) ∧ s.b.length ≤ cr ∧ By w' (fun b => S b ∧ ¬ S' b) ar s.b))
set_option maxRecDepth 100000 in
set_option maxHeartbeats 4000000 in
theorem endPiece_any (w : World) (p : Nat) (S : Nat → Prop) (s : Pc) (vm vr : Value) (h : RcX w p S s vm vr) : Calls Tryd.prog 17 #[.pointer (some ⟨p, 0, none⟩)] w (EndP w p S s) := by
  obtain ⟨B, hB⟩ : ∃ r, s.b.length = r := ⟨_, rfl⟩
  obtain ⟨ar, cr, hvr⟩ : ∃ ar cr, vr = .slice ar B cr := by have := h.rr; rw [hB] at this; exact this.shape
  subst hvr
  have hBc : B ≤ cr := by
    rcases h.rr.2 with ⟨h1, h2⟩ | ⟨b, off, cap, cur, h1, _, h3, _⟩
    · rw [hB] at h2; omega
    · simp at h1; omega
  have g2 : w.cell? ⟨p, 2, none⟩ = some (.bool s.la) := cell_of h.box rfl
  obtain ⟨W1, hW1⟩ : ∃ W, W = w.setCells p 0 [.slice none 0 0, .int .i64 0, .bool false] := ⟨_, rfl⟩
  have h1 : W1.heap[p]? = some (.cells #[.slice none 0 0, .int .i64 0, .bool false, .slice ar B cr, .bool s.dd] 60 (0, 0)) := by rw [hW1]; exact setCells_heap _ _ _ 0 h.box
  have m1 : Mods (fun b => b = p) w W1 := by rw [hW1]; exact setCells_mods p _ w 0
  have x1 := h.piece m1 (s' := ⟨[], 0, false, s.b, s.dd⟩) h1 rfl rfl
  have t0 : w.there p 0 3 := there_of h.box (by simp)
  have g3 : W1.cell? ⟨p, 3, none⟩ = some (.slice ar B cr) := cell_of h1 rfl
  have z3 := froz_of h1 3
  have HT0 := hid t0
  have HX0 := hid h
  have HX1 := hid x1
  have HM1 := hid m1
  have HW1 := hid hW1.symm
  cases hla : s.la with
  | false =>
    rw [hla] at g2
    have HES : Hid (enS s = ⟨[], 0, false, s.b, s.dd⟩) := hid (by unfold enS; rw [hla]; rfl)
    clear h h1 m1 x1 t0 g3 z3 hW1
    go_enter Tryd.func17, Tryd.ntmps17
    go_upto_region 3 with (refine wpList_store_mid rfl 58 _ _ rfl p 0 #[.slice none 0 0, .int .i64 0, .bool false] rfl rfl HT0.out sizePie (by simp [Value.oneCell']) ?_)
    go_wp2
    go_ret
    refine ⟨S, ?_, ?_, .inl ⟨hla, rfl⟩⟩
    · rw [HES.out]; rw [← HW1.out] at HX1; exact ⟨_, _, HX1.out⟩
    · have := HM1.out; rw [← HW1.out] at this; exact ⟨fun _ h => .inl h, this.weak (fun x hx => .inl (by rw [hx]; exact HX0.out.sp))⟩
  | true =>
    rw [hla] at g2
    have HES : Hid (enS s = ⟨[], 0, false, [], s.dd⟩) := hid (by unfold enS; rw [hla]; rfl)
    obtain ⟨W2, hW2⟩ : ∃ W, W = W1.setCell ⟨p, 3, none⟩ (.slice none 0 0) := ⟨_, rfl⟩
    have h2 : W2.heap[p]? = some (.cells #[.slice none 0 0, .int .i64 0, .bool false, .slice none 0 0, .bool s.dd] 60 (0, 0)) := by rw [hW2]; exact setc h1 3 _
    have m2 : Mods (fun b => b = p) w W2 := m1.tr (by rw [hW2]; exact (Mods.refl (fun b => b = p) W1).setCell p 3 _ rfl)
    have x2 := h.fresh m2 (s' := ⟨[], 0, false, [], s.dd⟩) h2 rfl rfl
    obtain ⟨W3, hW3⟩ : ∃ W, W = W2.alloc (.cells #[.slice ar B cr] 27) := ⟨_, rfl⟩
    have b3 : Below W2.heap.size W2 W3 := by rw [hW3]; exact below_alloc (Below.refl _ _) (Nat.le_refl _) _
    have h3 : W3.heap[W2.heap.size]? = some (.cells #[.slice ar B cr] 27 (0, 0)) := by rw [hW3]; exact alloc_new W2 _
    have x3 := x2.later b3
    have x3' : RcX W3 p (fun b => b = p) ⟨[], 0, false, [], s.dd⟩ (.slice none 0 0) (.slice none 0 0) := ⟨x3.box, x3.rm, x3.rr, x3.im, x3.ib, x3.ne, rfl, fun b hb => by simp [blkV] at hb, fun b hb => by simp [blkV] at hb, fun b hb => by rw [hb]; exact x3.lt⟩
    have r0 := h.rr
    rw [hB] at r0
    obtain ⟨y0, _⟩ := rw_by (S := fun b => S b ∧ ¬ b = p) r0 h.ib (fun b hb => ⟨h.sr b hb, h.nop r0 hb⟩)
    have y3 : By W3 (fun b => S b ∧ ¬ b = p) ar s.b := (y0.keep (w' := W2) (fun b hb hl => m2.block b hl hb.2)).later b3
    have HY3 := hid y3
    have HX3 := hid x3'
    have HH3 := hid h3
    have HK3 := hid (show Kp S w (fun b => b = p) W3 from ⟨fun b hb => .inl (by rw [hb]; exact h.sp), (m2.weak (fun x hx => .inl (by rw [hx]; exact h.sp))).below b3⟩)
    have HS2 := hid m2.size
    have HPL := hid h.lt
    have HW2 := hW2.symm
    have HW3 := hid hW3
    clear h h1 m1 x1 t0 hW1 h2 m2 x2 b3 h3 x3 x3' r0 y0 y3 hW2 hW3
    go_enter Tryd.func17, Tryd.ntmps17
    go_upto_region 3 with (refine wpList_store_mid rfl 58 _ _ rfl p 0 #[.slice none 0 0, .int .i64 0, .bool false] rfl rfl HT0.out sizePie (by simp [Value.oneCell']) ?_)
    rw [HW1.out]
    go_wp2
    go_ret
    rw [← HW3.out]
    refine ⟨fun b => b = p, ?_, HK3.out, .inr ⟨hla, W2.heap.size, ar, cr, ?_, HS2.out, fun e => ?_, ?_, by omega, HY3.out⟩⟩
    · rw [HES.out]; exact ⟨_, _, HX3.out⟩
    · rfl
    · have h1 : W2.heap.size = p := e; have := HPL.out; have := HS2.out; omega
    · rw [hB]; exact HH3.out
end Go.Proofs.YtbfdkbdjipiliaaDoor
