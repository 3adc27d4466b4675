/- SchedLocks: a sharer lets the lock go. -/
import Derived.Test.YtacmdhlemolngaaScMd
namespace Go.Proofs.Ytacmdhlemolngaa
open Go.RowKit

section
variable {w0 w w' : World} {p n : Nat} {lab lab' : Nat → Own} {A : Ab} {N T : Nat} {cs : Nat → Nat} {sh : Nat → Sh} {bi bb bo : Nat} {vi vo : Value} {ins ord : List Int} {x : Nat}
/-- The mark 'bad' is set anew, to false. -/
theorem Lw.setB (h : Lw w0 w lab N cs sh bi bb bo vi vo ins ord) : Lw w0 (w.setCell ⟨bb, 0, none⟩ (.bool false)) lab N cs sh bi bb bo vi vo ins ord ∧ Mods (fun b => b = bb) w (w.setCell ⟨bb, 0, none⟩ (.bool false)) := by
  have hm : Mods (fun b => b = bb) w (w.setCell ⟨bb, 0, none⟩ (.bool false)) := (Mods.refl _ _).setCell _ _ _ rfl
  have ob := h.own bb (.inr (.inl rfl))
  refine ⟨⟨fun i hi => ?_, h.inj, ?_, ?_, ?_, h.own, h.ne, h.ri.mods hm (fun g hg e => (h.rn g (.inl hg)).2.1 e), h.ro.mods hm (fun g hg e => (h.rn g (.inr hg)).2.1 e), h.rn, h.rr, h.low.mods hm (fun b e => by rw [e]; exact ob.2.1)⟩, hm⟩
  · obtain ⟨k1, k2, k3⟩ := h.cell i hi
    exact ⟨(hm.block _ (blt k1) (fun e => ob.2.2 i hi e)).trans k1, k2, k3⟩
  · exact (hm.block _ (blt h.hi) h.ne.1).trans h.hi
  · rw [setc h.hb 0 (.bool false)]; rfl
  · exact (hm.block _ (blt h.ho) (fun e => h.ne.2.2 e.symm)).trans h.ho
theorem hand_tk (h : Tk A N cs) (I : Inv A (some (x : Int))) (hN : A.ws.length = N) (k : Int) : Tk (A.hand k) N cs := fun i hi h5 => by
  rw [hand_t]
  refine h i hi (fun e => h5 ?_)
  have hh : A.has (i : Int) = true := by unfold Ab.has; rw [hN]; simpa using hi
  rcases (hand_wk I k hh).2 with e2 | e2
  · rw [e2]; exact e
  · omega
set_option maxRecDepth 100000 in
set_option maxHeartbeats 4000000 in
theorem step_leave (h : All w0 w p lab A n (some (x : Int)) N T cs sh bi bb bo vi vo ins ord) (hx : x < N) (hN : N ≤ 12) (hn : n ≤ 1000000) (hT : T ≤ 4) (hs : (sh x).s = 2) (hn0 : (sh x).n = 0) :
    Calls Try.prog 121 #[.pointer (some ⟨cs x, 0, none⟩), .pointer (some ⟨p, 0, none⟩), .int .i64 x] w fun e w' => e = .returned undef ∧ Stp w0 w' p (n + 2) x N T cs bi bb bo (sm (fun i => phi (sh i)) N) ord.length := by
  obtain ⟨c0, _, c2, c3, c4, c5, _, hf⟩ := h.lw.cells hx
  rw [hs] at c3
  rw [hn0] at c2
  replace c3 : w.cell? ⟨cs x, 3, none⟩ = some (.int .i64 2) := c3
  replace c2 : w.cell? ⟨cs x, 2, none⟩ = some (.int .i64 0) := c2
  have hnm := h.lk.nm x hx
  have ht1 := hnm.2.1 (.inr hs)
  have hw : IntKind.i64.wrap ((sh x).t - 1 : Int) = ((sh x).t - 1 : Int) := IntWalk.i64_in _ (by omega)
  have hbi : w.cell? ⟨bi, 0, none⟩ = some vi := cell_of h.lw.hi rfl
  have fbi : w.frozen? ⟨bi, 0, none⟩ = false := froz_of h.lw.hi 0
  obtain ⟨l1, m1⟩ := h.lw.pushI (w' := w) (v' := .slice none 0 0) (l := []) (Lr.nil _ _ _) (Mods.refl _ _) (fun g hg => by simp [Value.ownBlock] at hg)
  have own1 : ∀ b, b = bi ∨ vi.ownBlock = some b → lab b = .no := fun b e => e.elim (fun e => by rw [e]; exact (h.lw.own bi (.inl rfl)).1) (fun e => (h.lw.ri.2 b e).1)
  have s1 := h.sc.outside m1 own1
  obtain ⟨W1, hW1⟩ : ∃ W1, W1 = w.setCell ⟨bi, 0, none⟩ (.slice none 0 0) := ⟨_, rfl⟩
  rw [← hW1] at l1 s1
  have k0 := (l1.cells hx).1
  have kf := (l1.cells hx).2.2.2.2.2.2.2 0
  obtain ⟨l2, m2⟩ := l1.set hx 0 (.int .i64 ((sh x).t - 1 : Int)) { sh x with t := (sh x).t - 1 } (by
    unfold shC
    rw [show (((sh x).t - 1 : Nat) : Int) = (sh x).t - 1 by omega]
    rfl)
  have lx : ∀ b, b = cs x → lab b = .no := fun b e => by rw [e]; exact (h.lw.cell x hx).2.1
  have s2 := s1.outside m2 lx
  obtain ⟨W2, hW2⟩ : ∃ W2, W2 = W1.setCell ⟨cs x, 0, none⟩ (.int .i64 ((sh x).t - 1 : Int)) := ⟨_, rfl⟩
  rw [← hW2] at l2 s2
  have j3 := (l2.cells hx).2.2.2.1
  have jf := (l2.cells hx).2.2.2.2.2.2.2 3
  obtain ⟨l3, m3⟩ := l2.set hx 3 (.int .i64 0) { sh x with t := (sh x).t - 1, s := 0 } (by rw [updN_same]; unfold shC; rfl)
  have s3 := s2.outside m3 lx
  obtain ⟨W3, hW3⟩ : ∃ W3, W3 = W2.setCell ⟨cs x, 3, none⟩ (.int .i64 0) := ⟨_, rfl⟩
  rw [← hW3] at l3 s3
  have e23 : updN (updN sh x { sh x with t := (sh x).t - 1 }) x { sh x with t := (sh x).t - 1, s := 0 } = updN sh x { sh x with t := (sh x).t - 1, s := 0 } := by
    funext k
    unfold updN
    split <;> rfl
  rw [e23] at l3
  have i5 := (l3.cells hx).2.2.2.2.2.1
  have ib : W3.cell? ⟨bb, 0, none⟩ = some (.bool false) := cell_of l3.hb rfl
  have hbd : Below W3.heap.size W3 W3.drew := (Below.refl _ W3).drew
  have hfirst := h.lk.s2 x hx hs
  obtain ⟨tl, htl⟩ := head_cons hfirst
  have hur : unlockR A (x : Int) 3 = 0 := by unfold unlockR; rw [h.lk.has hx, htl]; simp
  have hus : unlockS A (x : Int) 3 = A.hand 3 := by unfold unlockS; rw [if_pos hur]
  have HUN := hid (Unlock_any (s3.below hbd) (h.lk.inv.fit (by rw [h.lk.len]; omega)) (by omega) (x : Int) 3 (isI_of (by omega) (by omega)))
  rw [hur, hus] at HUN
  have HR : Hid (∀ w' lab', Sc w' p lab' (A.hand 3) (n + 2) → Keep lab W3.drew lab' w' → w'.cell? ⟨cs x, 5, none⟩ = some (.pointer (some ⟨bb, 0, none⟩)) ∧ w'.cell? ⟨bb, 0, none⟩ = some (.bool false) ∧ w'.frozen? ⟨bb, 0, none⟩ = false ∧ (w'.setCell ⟨bb, 0, none⟩ (.bool false)).cell? ⟨cs x, 5, none⟩ = some (.pointer (some ⟨bb, 0, none⟩)) ∧ (w'.setCell ⟨bb, 0, none⟩ (.bool false)).cell? ⟨bb, 0, none⟩ = some (.bool false) ∧ Stp w0 (w'.setCell ⟨bb, 0, none⟩ (.bool false)) p (n + 2) x N T cs bi bb bo (sm (fun i => phi (sh i)) N) ord.length) := hid (fun w' lab' hS hK => by
    have l4 := (l3.keep (Keep.below (lab := lab) hbd)).keep hK
    obtain ⟨l5, m5⟩ := l4.setB
    have s5 := hS.outside m5 (fun b e => by rw [e]; exact (l4.own bb (.inr (.inl rfl))).1)
    refine ⟨(l4.cells hx).2.2.2.2.2.1, cell_of l4.hb rfl, froz_of l4.hb 0, (l5.cells hx).2.2.2.2.2.1, cell_of l5.hb rfl, lab', _, _, _, vo, [], ord, ⟨s5, h.lk.leave hx hs, l5, hand_tk h.tk h.lk.inv h.lk.len 3⟩, ?_, by omega⟩
    have g := sm_upd phi sh x { sh x with t := (sh x).t - 1, s := 0 } N hx
    have g2 := phi_leave (sh x) hs hn0
    dsimp only at g g2 ⊢
    omega)
  clear h hf hnm l1 m1 own1 s1 l2 m2 lx s2 l3 m3 s3 e23 hfirst htl hur hus
  generalize (sh x).t = tt at *
  go_enter Try.func121, Try.ntmps121
  go_upto_region 18 with fail
  rw [← hW1]
  clear hW1
  go_upto_region 19 with fail
  rw [← hW2]
  clear hW2
  go_upto_region 20 with fail
  rw [← hW3]
  clear hW3
  go_region_held3 (fun w' => w'.cell? ⟨cs x, 5, none⟩ = some (.pointer (some ⟨bb, 0, none⟩)) ∧ w'.cell? ⟨bb, 0, none⟩ = some (.bool false)) ((first | exact ⟨i5, ib⟩ | exact ⟨q1, q2⟩ | exact ⟨q4, q5⟩)) ((go_at_call 32; refine HUN.out.mono ?_; rintro e w5 ⟨rfl, lab5, hS5, hK5⟩; obtain ⟨q1, q2, q3, q4, q5, q6⟩ := HR.out w5 lab5 hS5 hK5; have HR5 := hid q6; clear hS5 hK5 q6))
  go_wp2
  go_end0
  exact ⟨rfl, HR5.out⟩
end
end Go.Proofs.Ytacmdhlemolngaa
