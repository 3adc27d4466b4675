/- The small calls of a connection: what it tells, what is received, how it breaks off. -/
import Derived.Test.YtmmijbiapflneaaTdA
namespace Go.Proofs.Ytmmijbiapflneaa
open Go.RowKit Go.Maps
set_option linter.unusedVariables false

/-- The block turned, its rows and its map are the same ones, or none. -/
theorem CnX.gen {w w' : World} {p : Nat} {S : Nat → Prop} {c c' : Cn} {vc vm vw vc2 vm2 vw2 : Value} (h : CnX w p S c vc vm vw) (hm : Mods (fun b => b = p) w w') (hb : w'.heap[p]? = some (.cells (cnC c' vc2 vm2 vw2) 60 (0, 0)))
    (hrc : RW w 5 1 vc2 c'.came.length (u8s c'.came)) (hrw : RW w 5 1 vw2 c'.waits.length (u8s c'.waits)) (bc : ∀ b, blkV vc2 = some b → blkV vc = some b) (bw : ∀ b, blkV vw2 = some b → blkV vw = some b)
    (hmp : (c'.lv = false ∧ vm2 = .map none) ∨ (vm2 = vm ∧ c'.lv = c.lv ∧ c'.ec = c.ec ∧ c'.E = c.E)) : CnX w' p S c' vc2 vm2 vw2 := by
  have hbx := h.box
  have kr : ∀ v n X, RW w 5 1 v n X → RW w' 5 1 v n X := fun v n X hr => hr.keep (fun b hb2 => hm.block b (hr.lt hb2) (fun e => by
    subst e
    obtain ⟨cur, hk⟩ := hr.kind hb2
    rw [hbx] at hk
    simp only [Option.some.injEq, Obj.cells.injEq] at hk
    exact absurd hk.2.1 (by decide)))
  refine ⟨hb, kr _ _ _ hrc, kr _ _ _ hrw, ?_, fun b h1 h2 => h.ne b (bc b h1) (bw b h2), h.sp, fun b hb2 => h.sc b (bc b hb2), fun b hb2 => h.sw b (bw b hb2), fun b hb2 => Nat.lt_of_lt_of_le (h.slt b hb2) hm.size⟩
  rcases hmp with ⟨e1, e2⟩ | ⟨e1, e2, e3, e4⟩
  · exact .inl ⟨e1, e2⟩
  · rw [e1, e2, e3, e4]
    refine h.mp.imp id (fun ⟨e, gm, f1, f2, f3⟩ => ⟨e, gm, f1, f2, f3.keep (hm.block gm f3.lt (fun e => ?_))⟩)
    subst e
    obtain ⟨D, ⟨es, cl, hh, _⟩, _⟩ := f3
    rw [hbx] at hh
    simp at hh
theorem RB.none (w : World) : RW w 5 1 (.slice none 0 0) ([] : List Int).length (u8s []) := RW.nil w 5 1
theorem blk_none {b : Nat} {P : Prop} (h : blkV (.slice none 0 0) = some b) : P := by simp [blkV] at h
def mostI (mss : Int) : Int := max 64 (min (if mss = 0 then 536 else mss) 1460)
set_option maxRecDepth 100000 in
set_option maxHeartbeats 1000000 in
theorem mostOf_any (w : World) (mss : Int) : Calls Try.prog 40 #[.int .i64 mss] w fun e w' => e = .returned (.int .i64 (mostI mss)) ∧ w' = w := by
  unfold mostI
  by_cases h0 : mss = 0
  · rw [if_pos h0]
    subst h0
    obtain ⟨m, hm⟩ : ∃ m, min (536 : Int) 1460 = m := ⟨_, rfl⟩
    have q1 : ∀ ats ty W, (Builtin.min_ ats ty #[.int .i64 536, .int .i64 1460]).run Try.prog W = .ok (.int .i64 m) W := fun ats ty W => by rw [min_run, hm]
    have q2 : ∀ ats ty W, (Builtin.max_ ats ty #[.int .i64 64, .int .i64 m]).run Try.prog W = .ok (.int .i64 (max 64 m)) W := fun ats ty W => by rw [max_run]
    rw [hm]
    clear hm
    go_enter Try.func40, Try.ntmps40
    go_wp2
    go_ret
    exact ⟨rfl, rfl⟩
  · rw [if_neg h0]
    have h1 : (mss == 0) = false := by simp [h0]
    obtain ⟨m, hm⟩ : ∃ m, min mss 1460 = m := ⟨_, rfl⟩
    have q1 : ∀ ats ty W, (Builtin.min_ ats ty #[.int .i64 mss, .int .i64 1460]).run Try.prog W = .ok (.int .i64 m) W := fun ats ty W => by rw [min_run, hm]
    have q2 : ∀ ats ty W, (Builtin.max_ ats ty #[.int .i64 64, .int .i64 m]).run Try.prog W = .ok (.int .i64 (max 64 m)) W := fun ats ty W => by rw [max_run]
    rw [hm]
    clear hm
    go_enter Try.func40, Try.ntmps40
    go_wp2
    go_ret
    exact ⟨rfl, rfl⟩
section
variable {w : World} {p : Nat} {S : Nat → Prop} {c : Cn} {vc vm vw : Value}
set_option maxHeartbeats 1000000 in
theorem State_any (h : CnX w p S c vc vm vw) : Calls Try.prog 14 #[.pointer (some ⟨p, 0, none⟩)] w fun e w' => e = .returned (.int .i64 c.st) ∧ w' = w := by
  have p1 := cell_of h.box (i := 16) (v := .int .i64 c.st) rfl
  clear h
  go_enter Try.func14, Try.ntmps14
  go_wp2
  go_ret
  exact ⟨rfl, rfl⟩
def breakS (c : Cn) : Cn := { c with st := 5, waits := [], lv := false, ag := false, oK := false }
theorem break_cells (c : Cn) (vc vm vw : Value) : (((((cnC c vc vm vw).setIfInBounds 16 (.int .i64 5)).setIfInBounds 7 (.slice none 0 0)).setIfInBounds 2 (.map none)).setIfInBounds 12 (.bool false)).setIfInBounds 18 (.bool false) = cnC (breakS c) vc (.map none) (.slice none 0 0) := by simp [cnC, breakS]
set_option maxRecDepth 100000 in
set_option maxHeartbeats 2000000 in
theorem breakOff_any (h : CnX w p S c vc vm vw) : Calls Try.prog 24 #[.pointer (some ⟨p, 0, none⟩)] w fun e w' => e = .returned undef ∧ CnX w' p S (breakS c) vc (.map none) (.slice none 0 0) ∧ Mods (fun b => b = p) w w' := by
  obtain ⟨a, k, rfl⟩ := len_waits h
  have p1 := cell_of h.box (i := 16) (v := .int .i64 c.st) rfl
  have p2 := cell_of h.box (i := 7) (v := .slice a c.waits.length k) rfl
  have p4 := cell_of h.box (i := 12) (v := .bool c.ag) rfl
  have p5 := cell_of h.box (i := 18) (v := .bool c.oK) rfl
  obtain ⟨gm, hgm⟩ : ∃ gm, vm = .map gm := by
    rcases h.mp with ⟨_, e⟩ | ⟨_, g, e, _⟩
    · exact ⟨_, e⟩
    · exact ⟨_, e⟩
  subst hgm
  have p3 := cell_of h.box (i := 2) (v := .map gm) rfl
  have f1 := froz_of h.box 16
  have f2 := froz_of h.box 7
  have f3 := froz_of h.box 2
  have f4 := froz_of h.box 12
  have f5 := froz_of h.box 18
  have k1 := setc (w := w) h.box 16 (.int .i64 5)
  have k2 := setc k1 7 (.slice none 0 0)
  have k3 := setc k2 2 (.map none)
  have k4 := setc k3 12 (.bool false)
  have k5 := setc k4 18 (.bool false)
  rw [break_cells] at k5
  have HK := hid k5
  have m1 := ((Mods.refl (fun b => b = p) w).setCell p 16 (.int .i64 5) rfl).setCell p 7 (.slice none 0 0) rfl
  have HM := hid (((m1.setCell p 2 (.map none) rfl).setCell p 12 (.bool false) rfl).setCell p 18 (.bool false) rfl)
  have HX := hid h
  clear h k1 k2 k3 k4 k5 m1
  go_enter Try.func24, Try.ntmps24
  go_wp2
  go_end0
  exact ⟨rfl, HX.out.gen HM.out HK.out HX.out.rc (RB.none w) (fun b hb => hb) (fun b hb => blk_none hb) (.inl ⟨rfl, rfl⟩), HM.out⟩
end
end Go.Proofs.Ytmmijbiapflneaa
