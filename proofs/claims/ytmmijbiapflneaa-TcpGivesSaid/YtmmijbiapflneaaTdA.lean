/- What goes out: what is under way, what was sent, the clock; an answer that is heard. -/
import Derived.Test.YtmmijbiapflneaaTbB
namespace Go.Proofs.Ytmmijbiapflneaa
open Go.RowKit Go.Maps
set_option linter.unusedVariables false

theorem min_run (ats : Array TypeId) (ty : TypeId) (a b : Int) (W : World) : (Builtin.min_ ats ty #[.int .i64 a, .int .i64 b]).run Try.prog W = .ok (.int .i64 (min a b)) W := by
  simp [Builtin.min_, Builtin.min2]
  split <;> omega
theorem max_run (ats : Array TypeId) (ty : TypeId) (a b : Int) (W : World) : (Builtin.max_ ats ty #[.int .i64 a, .int .i64 b]).run Try.prog W = .ok (.int .i64 (max a b)) W := by
  simp [Builtin.max_, Builtin.max2]
  split <;> omega
def wayC (c : Cn) : Int := s32 c.N c.U
def sentC (c : Cn) : Int := min (wayC c) c.waits.length
def awaitsB (c : Cn) : Bool := !(c.U == c.N) || (!c.waits.isEmpty && decide (c.W = 0))
def hearS (c : Cn) (ack win : Int) : Cn :=
  let c1 := if lessB c.U ack then { c with waits := c.waits.drop (min (s32 ack c.U).toNat c.waits.length), U := ack, ck := 0, tr := 0, ag := false } else c
  if lessB ack c1.U then c1 else { c1 with W := win }
section
variable {w : World} {p : Nat} {S : Nat → Prop} {c : Cn} {vc vm vw : Value}
theorem len_waits (h : CnX w p S c vc vm vw) : ∃ a k, vw = .slice a c.waits.length k := h.rw_.shape
set_option maxRecDepth 100000 in
set_option maxHeartbeats 1000000 in
theorem underWay_any (h : CnX w p S c vc vm vw) :
    Calls Try.prog 43 #[.pointer (some ⟨p, 5, none⟩)] w fun e w' => e = .returned (.int .i64 (wayC c)) ∧ Below w.heap.size w w' := by
  have p5 := cell_of h.box (i := 5) (v := .int .u32 c.U) rfl
  have p6 := cell_of h.box (i := 6) (v := .int .u32 c.N) rfl
  have q1 := wrapU_sub c.N c.U
  have q2 := wrapI_u (s32_u c.N c.U)
  clear h
  go_enter Try.func43, Try.ntmps43
  go_wp2
  go_region
  go_wp2
  go_ret
  exact ⟨rfl, (Below.refl _ _).drew⟩
set_option maxRecDepth 100000 in
set_option maxHeartbeats 1000000 in
theorem sent_any (h : CnX w p S c vc vm vw) :
    Calls Try.prog 31 #[.pointer (some ⟨p, 5, none⟩)] w fun e w' => e = .returned (.int .i64 (sentC c)) ∧ Below w.heap.size w w' := by
  obtain ⟨a, k, rfl⟩ := len_waits h
  have p7 := cell_of h.box (i := 7) (v := .slice a c.waits.length k) rfl
  obtain ⟨n, hn⟩ : ∃ n, c.waits.length = n := ⟨_, rfl⟩
  obtain ⟨m, hm⟩ : ∃ m, wayC c = m := ⟨_, rfl⟩
  have q1 : ∀ ats ty W, (Builtin.min_ ats ty #[.int .i64 m, .int .i64 (n : Int)]).run Try.prog W = .ok (.int .i64 (sentC c)) W := fun ats ty W => by rw [min_run]; unfold sentC; rw [hn, hm]
  have HU := hid (underWay_any (w := w) h)
  have HU2 := hid (underWay_any (w := w.drew) (h.later ((Below.refl _ _).drew)))
  rw [hm] at HU HU2
  rw [hn] at p7
  clear h hn hm
  go_enter Try.func31, Try.ntmps31
  go_wp2_with fail
  go_region_held3 (fun w' => w'.cell? ⟨p, 7, none⟩ = some (.slice a n k)) ((first | exact p7 | exact HS5.out))
    ((go_at_call 43; refine HU2.out.mono ?_; rintro e w5 ⟨rfl, hb5⟩; have HB5 := hid hb5; have HS5 := hid (cell_later (w := w.drew) hb5 p7); clear hb5))
  go_wp2
  go_ret
  exact ⟨rfl, below_undrew HB5.out⟩
end
theorem sliced_blk (a : Option Addr) (l h m s n c : Nat) (a2 : Option Addr) (e : sliced a l h m s = .slice a2 n c) : blkV (.slice a2 n c) = blkV (.slice a 0 0) := by
  unfold sliced at e
  simp only [Value.slice.injEq] at e
  obtain ⟨e, _, _⟩ := e
  subst e
  by_cases hc : m = l
  · simp only [if_pos hc]
    cases a <;> rfl
  · simp only [if_neg hc]
    cases a with
    | none => rfl
    | some ad =>
      simp only [Option.map_some, blkV]
      unfold Addr.add
      split <;> rfl
/-- A row of bytes without its first m. -/
theorem RB.cut {w : World} {a : Option Addr} {n cap : Nat} {X : List Value} (h : RW w 5 1 (.slice a n cap) n X) (m : Nat) (hm : m ≤ n) :
    ∃ a2, (∀ W, (Instr.slice 28 (.slice a n cap) (some (.int .i64 m)) none none).run Try.prog W = .ok (.slice a2 (n - m) (cap - m)) W) ∧ RW w 5 1 (.slice a2 (n - m) (cap - m)) (n - m) (X.drop m) ∧ blkV (.slice a2 (n - m) (cap - m)) = blkV (.slice a n cap) := by
  obtain ⟨a2, ha2⟩ : ∃ a2, sliced a m n cap 1 = .slice a2 (n - m) (cap - m) := ⟨_, rfl⟩
  have hl := h.1
  refine ⟨a2, fun W => ?_, ?_, ?_⟩
  · rw [run_slice_l (P := Try.prog) W 28 a n cap Try.underlying28 .i64 m (by omega) (by omega), elemB, size5run]
    simp [ha2]
  · rcases h.2 with ⟨e, h0⟩ | ⟨b, off, cap', cur, e, hh, h1, hmx, h2, h3⟩
    · simp only [Value.slice.injEq] at e
      obtain ⟨rfl, rfl, rfl⟩ := e
      obtain rfl : m = 0 := by omega
      unfold sliced at ha2
      simp at ha2
      subst ha2
      simpa using h
    · simp only [Value.slice.injEq] at e
      obtain ⟨rfl, _, rfl⟩ := e
      refine ⟨by rw [List.length_drop, hl]; omega, .inr ?_⟩
      by_cases hc : cap = m
      · unfold sliced at ha2
        rw [if_pos hc] at ha2
        simp only [Value.slice.injEq, and_true] at ha2
        exact ⟨b, off, cap - m, cur, by rw [← ha2], hh, by omega, by omega, by omega, fun j hj => by omega⟩
      · unfold sliced at ha2
        rw [if_neg hc] at ha2
        simp only [Option.map_some, add_addr, Value.slice.injEq, and_true, Nat.mul_one] at ha2
        refine ⟨b, off + m, cap - m, cur, by rw [← ha2], hh, by omega, by omega, by omega, fun j hj => ?_⟩
        rw [List.getElem?_drop, Nat.add_assoc]
        exact h3 _ (by omega)
  · rw [sliced_blk _ _ _ _ _ _ _ _ ha2]
    cases a <;> rfl
theorem CnX.drew {w : World} {p : Nat} {S : Nat → Prop} {c : Cn} {vc vm vw : Value} (h : CnX w p S c vc vm vw) : CnX w.drew p S c vc vm vw := h.later ((Below.refl _ _).drew)
/-- The same connection whose bytes to be sent are a part of the same row. -/
theorem CnX.cutW {w w' : World} {p : Nat} {S : Nat → Prop} {c c' : Cn} {vc vm vw vw2 : Value} (h : CnX w p S c vc vm vw) (hm : Mods (fun b => b = p) w w') (hb : w'.heap[p]? = some (.cells (cnC c' vc vm vw2) 60 (0, 0))) (hr : RW w 5 1 vw2 c'.waits.length (u8s c'.waits)) (hbk : blkV vw2 = blkV vw ∨ blkV vw2 = none) (e1 : c'.came = c.came) (e3 : c'.lv = c.lv) (e4 : c'.ec = c.ec) (e5 : c'.E = c.E) : CnX w' p S c' vc vm vw2 := by
  have hbk2 : ∀ b, blkV vw2 = some b → blkV vw = some b := fun b hb => by
    rcases hbk with e | e
    · rw [← e]; exact hb
    · rw [e] at hb; simp at hb
  have h2 : CnX w p S { c with waits := c'.waits } vc vm vw2 → CnX w' p S c' vc vm vw2 := fun h2 => h2.turn hm hb e1 rfl e3 e4 e5
  have hbx := h.box
  have kr : ∀ v n X, RW w 5 1 v n X → RW w' 5 1 v n X := fun v n X hr => hr.keep (fun b hb2 => hm.block b (hr.lt hb2) (fun e => by
    subst e
    obtain ⟨cur, hk⟩ := hr.kind hb2
    rw [hbx] at hk
    simp only [Option.some.injEq, Obj.cells.injEq] at hk
    exact absurd hk.2.1 (by decide)))
  refine ⟨hb, by rw [e1]; exact kr _ _ _ h.rc, kr _ _ _ hr, ?_, fun b h1 h2 => h.ne b h1 (hbk2 b h2), h.sp, h.sc, fun b hb2 => h.sw b (hbk2 b hb2), fun b hb2 => Nat.lt_of_lt_of_le (h.slt b hb2) hm.size⟩
  rw [e3, e4, e5]
  refine h.mp.imp id (fun ⟨e, gm, f1, f2, f3⟩ => ⟨e, gm, f1, f2, f3.keep (hm.block gm f3.lt (fun e => ?_))⟩)
  subst e
  obtain ⟨D, ⟨es, cl, hh, _⟩, _⟩ := f3
  rw [hbx] at hh
  simp at hh
theorem wv_cells (c : Cn) (vc vm vw v2 : Value) (ack : Int) (l : List Int) : (((((cnC c vc vm vw).setIfInBounds 7 v2).setIfInBounds 5 (.int .u32 ack)).setIfInBounds 10 (.int .i64 0)).setIfInBounds 11 (.int .i64 0)).setIfInBounds 12 (.bool false) = cnC { c with waits := l, U := ack, ck := 0, tr := 0, ag := false } vc vm v2 := by simp [cnC]
theorem W_cells (c : Cn) (vc vm vw : Value) (win : Int) : (cnC c vc vm vw).setIfInBounds 8 (.int .i64 win) = cnC { c with W := win } vc vm vw := by simp [cnC]
theorem lessB_self (a : Int) : lessB a a = false := by simp [lessB]
section
variable {w : World} {p : Nat} {S : Nat → Prop} {c : Cn} {vc vm vw : Value}
set_option maxRecDepth 100000 in
set_option maxHeartbeats 4000000 in
theorem hear_any (h : CnX w p S c vc vm vw) (ack win : Int) (hl : c.waits.length ≤ 900000) :
    Calls Try.prog 42 #[.pointer (some ⟨p, 5, none⟩), .int .u32 ack, .int .i64 win] w fun e w' => e = .returned undef ∧ (∃ vw', CnX w' p S (hearS c ack win) vc vm vw') ∧ Mods (fun b => b = p) w w' := by
  obtain ⟨a, k, rfl⟩ := len_waits h
  have p5 := cell_of h.box (i := 5) (v := .int .u32 c.U) rfl
  have HX := hid h
  unfold hearS
  cases hA : lessB c.U ack with
  | false =>
    simp only [Bool.false_eq_true, if_false]
    have H1 := hid (Less_any w c.U ack)
    have H2 := hid (Less_any w ack c.U)
    rw [hA] at H1
    cases hB : lessB ack c.U with
    | true =>
      rw [hB] at H2
      simp only [if_true]
      clear h hA hB
      go_enter Try.func42, Try.ntmps42
      go_wp2_with fail
      go_at_call 20; refine H1.out.mono ?_; rintro e w5 ⟨rfl, rfl⟩; clear H1
      go_wp2_with fail
      go_at_call 20; refine H2.out.mono ?_; rintro e w5 ⟨rfl, rfl⟩; clear H2
      go_wp2_with fail
      go_end0
      exact ⟨rfl, ⟨_, HX.out⟩, Mods.refl _ _⟩
    | false =>
      rw [hB] at H2
      simp only [Bool.false_eq_true, if_false]
      have k3 := setc (w := w) h.box 8 (.int .i64 win)
      rw [W_cells] at k3
      have p8 := cell_of h.box (i := 8) (v := .int .i64 c.W) rfl
      have f8 := froz_of h.box 8
      have HK := hid k3
      have HM := hid ((Mods.refl (fun b => b = p) w).setCell p 8 (.int .i64 win) rfl)
      clear h hA hB k3
      go_enter Try.func42, Try.ntmps42
      go_wp2_with fail
      go_at_call 20; refine H1.out.mono ?_; rintro e w5 ⟨rfl, rfl⟩; clear H1
      go_wp2_with fail
      go_at_call 20; refine H2.out.mono ?_; rintro e w5 ⟨rfl, rfl⟩; clear H2
      go_wp2_with fail
      go_end0
      exact ⟨rfl, ⟨_, HX.out.turn HM.out HK.out rfl rfl rfl rfl rfl⟩, HM.out⟩
  | true =>
    simp only [if_true]
    rw [lessB_self]
    simp only [Bool.false_eq_true, if_false]
    obtain ⟨n, hn⟩ : ∃ n, c.waits.length = n := ⟨_, rfl⟩
    obtain ⟨m, hm⟩ : ∃ m, min (s32 ack c.U).toNat c.waits.length = m := ⟨_, rfl⟩
    have hmn : m ≤ n := by omega
    rw [hm]
    have hr := h.rw_
    rw [hn] at hr
    obtain ⟨a2, hcut, hr2, hbk⟩ := RB.cut hr m hmn
    have hrow : RW w 5 1 (.slice a2 (n - m) (k - m)) (c.waits.drop m).length (u8s (c.waits.drop m)) := by
      rw [show (c.waits.drop m).length = n - m by rw [List.length_drop, hn], show u8s (c.waits.drop m) = (u8s c.waits).drop m by simp]
      exact hr2
    have p7 := cell_of h.box (i := 7) (v := .slice a c.waits.length k) rfl
    rw [hn] at p7
    have p8 := cell_of h.box (i := 8) (v := .int .i64 c.W) rfl
    have p10 := cell_of h.box (i := 10) (v := .int .i64 c.ck) rfl
    have p11 := cell_of h.box (i := 11) (v := .int .i64 c.tr) rfl
    have p12 := cell_of h.box (i := 12) (v := .bool c.ag) rfl
    have f5 := froz_of h.box 5
    have f7 := froz_of h.box 7
    have f8 := froz_of h.box 8
    have f10 := froz_of h.box 10
    have f11 := froz_of h.box 11
    have f12 := froz_of h.box 12
    have q1 := wrapU_sub ack c.U
    have q2 := wrapI_u (s32_u ack c.U)
    have hb := s32_bd ack c.U
    have qm : ∀ ats ty W, (Builtin.min_ ats ty #[.int .i64 (s32 ack c.U), .int .i64 (n : Int)]).run Try.prog W = .ok (.int .i64 (m : Int)) W := fun ats ty W => by
      rw [min_run]
      have : min (s32 ack c.U) (n : Int) = (m : Int) := by omega
      rw [this]
    have k1 := setc (w := w) h.box 7 (.slice a2 (n - m) (k - m))
    have k2 := setc k1 5 (.int .u32 ack)
    have k3 := setc k2 10 (.int .i64 0)
    have k4 := setc k3 11 (.int .i64 0)
    have k5 := setc k4 12 (.bool false)
    rw [wv_cells c vc vm (.slice a c.waits.length k) _ ack (c.waits.drop m)] at k5
    have k6 := setc k5 8 (.int .i64 win)
    rw [W_cells] at k6
    have m1 := (Mods.refl (fun b => b = p) w).setCell p 7 (.slice a2 (n - m) (k - m)) rfl
    have m2 := m1.setCell p 5 (.int .u32 ack) rfl
    have m3 := (m2.setCell p 10 (.int .i64 0) rfl).setCell p 11 (.int .i64 0) rfl
    have HM6 := hid ((m3.setCell p 12 (.bool false) rfl).setCell p 8 (.int .i64 win) rfl)
    clear m1 m2 m3
    have HK := hid k6
    have HR := hid hrow
    have HB : Hid (blkV (.slice a2 (n - m) (k - m)) = blkV (.slice a c.waits.length k)) := hid (by rw [hn]; exact hbk)
    have H1 := hid (Less_any w c.U ack)
    rw [hA] at H1
    have H2 : Hid (∀ W, Calls Try.prog 20 #[.int .u32 ack, .int .u32 ack] W fun e w' => e = .returned (.bool false) ∧ w' = W) := hid (fun W => by have := Less_any W ack ack; rwa [lessB_self] at this)
    clear h hA hn hm hmn hr hr2 hrow k1 k2 k3 k4 k5 k6 hb hbk
    go_enter Try.func42, Try.ntmps42
    go_wp2_with fail
    go_at_call 20; refine H1.out.mono ?_; rintro e w5 ⟨rfl, rfl⟩; clear H1
    go_wp2_with fail
    go_region
    go_wp2_with fail
    go_at_call 20; refine (H2.out _).mono ?_; rintro e w5 ⟨rfl, rfl⟩; clear H2
    go_wp2_with fail
    go_end0
    exact ⟨rfl, ⟨_, CnX.drew (HX.out.cutW HM6.out HK.out HR.out (.inl HB.out) rfl rfl rfl rfl)⟩, HM6.out.drew⟩
end
end Go.Proofs.Ytmmijbiapflneaa
