/- Send: bytes put behind those that wait. -/
import Derived.Test.YtmmijbiapflneaaTbC
namespace Go.Proofs.Ytmmijbiapflneaa
open Go.RowKit Go.Maps
set_option linter.unusedVariables false
/-- The row of what waits turns: the connection with its new row. -/
theorem CnX.sends {w w2 : World} {p : Nat} {S : Nat → Prop} {c : Cn} {vc vm vw : Value} (h : CnX w p S c vc vm vw) (vw2 : Value) (c2 : Cn) (hm : Mods (fun b => blkV vw = some b ∨ b = p) w w2) (hb : w2.heap[p]? = some (.cells (cnC c2 vc vm vw2) 60 (0, 0))) (hr : RW w2 5 1 vw2 c2.waits.length (u8s c2.waits)) (hbk : ∀ b, blkV vw2 = some b → blkV vw = some b ∨ w.heap.size ≤ b)
    (e2 : c2.came = c.came) (e3 : c2.lv = c.lv) (e4 : c2.ec = c.ec) (e5 : c2.E = c.E) : ∃ S', CnX w2 p S' c2 vc vm vw2 ∧ Kp S w S' w2 := by
  have hbx := h.box
  have nep : ∀ v n X b, RW w 5 1 v n X → blkV v = some b → b ≠ p := fun v n X b hr hb2 e => by
    subst e
    obtain ⟨cur, hk⟩ := hr.kind hb2
    rw [hbx] at hk
    simp only [Option.some.injEq, Obj.cells.injEq] at hk
    exact absurd hk.2.1 (by decide)
  refine ⟨fun b => S b ∨ blkV vw2 = some b, ⟨hb, ?_, hr, ?_, ?_, .inl h.sp, fun b hb2 => .inl (h.sc b hb2), fun b hb2 => .inr hb2, ?_⟩, ?_, hm.weak ?_⟩
  · rw [e2]
    exact h.rc.keep (fun b hb2 => hm.block b (h.rc.lt hb2) (fun e => by
      rcases e with e | e
      · exact h.ne b hb2 e
      · exact nep _ _ _ b h.rc hb2 e))
  · rw [e3, e4, e5]
    refine h.mp.imp id (fun ⟨e, gm, f1, f2, f3⟩ => ⟨e, gm, f1, .inl f2, f3.keep (hm.block gm f3.lt (fun e => ?_))⟩)
    obtain ⟨D, ⟨es, cl, hh, _⟩, _⟩ := f3
    rcases e with e | e
    · obtain ⟨cur, hk⟩ := h.rw_.kind e
      rw [hh] at hk
      simp at hk
    · subst e
      rw [hbx] at hh
      simp at hh
  · intro b h1 h2
    rcases hbk b h2 with e | e
    · exact h.ne b h1 e
    · have := h.rc.lt h1; omega
  · intro b hb2
    rcases hb2 with e | e
    · exact Nat.lt_of_lt_of_le (h.slt b e) hm.size
    · exact hr.lt e
  · intro b hb2
    rcases hb2 with e | e
    · exact .inl e
    · rcases hbk b e with e | e
      · exact .inl (h.sw b e)
      · exact .inr e
  · intro b hb2
    rcases hb2 with e | e
    · exact .inl (h.sw b e)
    · exact .inl (by rw [e]; exact h.sp)
theorem wt_cells (c : Cn) (vc vm vw v2 : Value) (l : List Int) : (cnC c vc vm vw).setIfInBounds 7 v2 = cnC { c with waits := l } vc vm v2 := by simp [cnC]
set_option maxRecDepth 100000 in
set_option maxHeartbeats 8000000 in
theorem Send_ok {w : World} {p : Nat} {S : Nat → Prop} {c : Cn} {vc vm vw : Value} (h : CnX w p S c vc vm vw) (hst : c.st = 2 ∨ c.st = 3) (hov : c.ov = false) (a : Option Addr) (n cp : Nat) (l : List Int) (hn : l.length = n) (hb : Bytes w a l) (hl : c.waits.length + n ≤ 65536) :
    Calls Try.prog 16 #[.pointer (some ⟨p, 0, none⟩), .slice a n cp] w fun e w' => e = .returned (.int .i64 0) ∧ ∃ S' vw', CnX w' p S' { c with waits := c.waits ++ l } vc vm vw' ∧ Kp S w S' w' := by
  obtain ⟨va, vk, hvw⟩ := len_waits h
  obtain ⟨a4, c4, w2, hrun, hrow, hmods, hblk⟩ := RB.push w vw c.waits h.rw_ l a n cp hn hb (by omega) 28
  have hpne : blkV vw ≠ some p := fun e => by
    obtain ⟨cur, hk⟩ := h.rw_.kind e
    rw [h.box] at hk
    simp only [Option.some.injEq, Obj.cells.injEq] at hk
    exact absurd hk.2.1 (by decide)
  have hbp : w2.heap[p]? = some (.cells (cnC c vc vm vw) 60 (0, 0)) := (hmods.block p (h.slt p h.sp) hpne).trans h.box
  have k1 := setc hbp 7 (.slice a4 (c.waits.length + n) c4)
  rw [wt_cells c vc vm vw _ (c.waits ++ l)] at k1
  have p16 := cell_of h.box (i := 16) (v := .int .i64 c.st) rfl
  have p13 := cell_of h.box (i := 13) (v := .bool c.ov) rfl
  have c17 := cell_of h.box (i := 7) (v := vw) rfl
  have c27 := cell_of hbp (i := 7) (v := vw) rfl
  have f27 := froz_of hbp 7
  have M1 := (hmods.weak (al' := fun b => blkV vw = some b ∨ b = p) (fun b hb => .inl (.inl hb))).setCell p 7 (.slice a4 (c.waits.length + n) c4) (.inr rfl)
  have hr2 : RW (w2.setCell ⟨p, 7, none⟩ (.slice a4 (c.waits.length + n) c4)) 5 1 (.slice a4 (c.waits.length + n) c4) (c.waits ++ l).length (u8s (c.waits ++ l)) := hrow.keep (fun b hb => by
    have hne : b ≠ p := fun e => by
      subst e
      obtain ⟨cur, hk⟩ := hrow.kind hb
      rw [hbp] at hk
      simp only [Option.some.injEq, Obj.cells.injEq] at hk
      exact absurd hk.2.1 (by decide)
    exact ((Mods.refl (fun b => b = p) w2).setCell p 7 _ rfl).block b (hrow.lt hb) hne)
  obtain ⟨S', g1, g2⟩ := h.sends (.slice a4 (c.waits.length + n) c4) { c with waits := c.waits ++ l } M1 k1 hr2 (fun b hb => by
    rcases hblk with e | ⟨x, hx, e⟩
    · exact .inl (by rw [← e]; exact hb)
    · rw [e] at hb; simp at hb; exact .inr (by omega)) rfl rfl rfl rfl
  have HG1 := hid g1
  have HG2 := hid g2
  have HAP := hid hrun
  rw [hov] at p13
  obtain ⟨wn, hwn⟩ : ∃ x, c.waits.length = x := ⟨_, rfl⟩
  have w1 : IntKind.i64.wrap (65536 - (wn : Int)) = 65536 - (wn : Int) := IntWalk.i64_in _ (by omega)
  have hgt : ¬ (65536 - (wn : Int) < (n : Int)) := by omega
  rw [hwn] at hvw HAP HG1 HG2
  have hst2 : c.st = 2 ∨ c.st = 3 := hst
  clear hrun hrow hmods hblk hpne hbp k1 M1 hr2 g1 g2 hst hov hb hn hl h hwn
  subst hvw
  rcases hst2 with e | e
  · rw [e] at p16
    clear e
    go_enter Try.func16, Try.ntmps16
    go_wp2_with (refine wpList_append_run2 rfl (.tmp 39) (.tmp 40) 28 28 rfl (by kernel_rfl) (by kernel_rfl) HAP.out ?_; clear HAP)
    go_ret
    exact ⟨rfl, _, ⟨_, HG1.out⟩, HG2.out⟩
  · rw [e] at p16
    clear e
    go_enter Try.func16, Try.ntmps16
    go_wp2_with (refine wpList_append_run2 rfl (.tmp 39) (.tmp 40) 28 28 rfl (by kernel_rfl) (by kernel_rfl) HAP.out ?_; clear HAP)
    go_ret
    exact ⟨rfl, _, ⟨_, HG1.out⟩, HG2.out⟩
end Go.Proofs.Ytmmijbiapflneaa
