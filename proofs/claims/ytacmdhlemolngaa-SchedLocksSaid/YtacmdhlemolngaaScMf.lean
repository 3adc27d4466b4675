/- SchedLocks: a sharer comes in. -/
import Derived.Test.YtacmdhlemolngaaScMe
import Derived.Deep.CutBlock
import Derived.Deep.DeepCutAuto
namespace Go.Proofs.Ytacmdhlemolngaa
open Go.RowKit

section
variable {w0 w w' : World} {p n : Nat} {lab lab' : Nat → Own} {A : Ab} {N T : Nat} {cs : Nat → Nat} {sh : Nat → Sh} {bi bb bo : Nat} {vi vo : Value} {ins ord : List Int} {x : Nat}
/-- What an append to the row behind a pointer wants and leaves: the row is that of the variable at bv. -/
theorem pushed {w0 w : World} {lab : Nat → Own} {bv c k : Nat} {v : Value} {l : List Int} (hr : Lr w0 w lab v l) (hb : w0.heap.size ≤ w.heap.size) (hlt : ∀ b, lab b ≠ .no → b < w.heap.size) (hl : l.length ≤ 1000000) (y : Int)
    (h1 : w.cell? ⟨c, k, none⟩ = some (.pointer (some ⟨bv, 0, none⟩))) (hv : w.heap[bv]? = some (.cells #[v] 31 (0, 0))) (n1 : ∀ g, v.ownBlock = some g → g ≠ bv ∧ g ≠ c) :
    ∃ a n c0 a8 n8 c8 w8, v = .slice a n c0 ∧ w.cell? ⟨bv, 0, none⟩ = some (.slice a n c0) ∧ (w.alloc (.cells #[.int .i64 y] 3)).cell? ⟨c, k, none⟩ = some (.pointer (some ⟨bv, 0, none⟩)) ∧ (w.alloc (.cells #[.int .i64 y] 3)).cell? ⟨bv, 0, none⟩ = some (.slice a n c0) ∧
      (Builtin.append_ #[31, 31] 31 #[.slice a n c0, .slice (some ⟨w.heap.size, 0, none⟩) 1 1]).run Try.prog (w.alloc (.cells #[.int .i64 y] 3)).drew = .ok (.slice a8 n8 c8) w8 ∧
      w8.cell? ⟨c, k, none⟩ = some (.pointer (some ⟨bv, 0, none⟩)) ∧ w8.cell? ⟨bv, 0, none⟩ = some (.slice a n c0) ∧ w8.frozen? ⟨bv, 0, none⟩ = false ∧
      Lr w0 w8 lab (.slice a8 n8 c8) (l ++ [y]) ∧ Mods (fun b => v.ownBlock = some b) w w8 ∧ (∀ g, (Value.slice a8 n8 c8).ownBlock = some g → v.ownBlock = some g ∨ w.heap.size < g) := by
  obtain ⟨av, cv, ev⟩ := owns_slice hr.1
  have hbd : Below w.heap.size w w.drew := (Below.refl _ w).drew
  obtain ⟨v8, w8, hap, hr8, hm8, hv8⟩ := (hr.keep (Keep.below (lab := lab) hbd)).push hb hlt hl y
  obtain ⟨a8, c8, e8⟩ := owns_slice hr8.1
  subst ev e8
  have hbv : w.cell? ⟨bv, 0, none⟩ = some (.slice av l.length cv) := cell_of hv rfl
  have hb2 : Below w.heap.size w (w.alloc (.cells #[.int .i64 y] 3)) := (Below.refl _ w).alloc (Nat.le_refl _) _
  have e1 : w8.heap[bv]? = some (.cells #[.slice av l.length cv] 31 (0, 0)) := (hm8.block bv (blt hv) (fun e => (n1 _ e).1 rfl)).trans hv
  exact ⟨av, l.length, cv, a8, _, c8, w8, rfl, hbv, cell_later hb2 h1, cell_later hb2 hbv, hap, hm8.cell (w := w.drew) h1 (fun e => (n1 _ e).2 rfl), cell_of e1 rfl, froz_of e1 0, hr8, (Mods.of_below hbd).tr hm8, hv8⟩
set_option maxRecDepth 100000 in
set_option maxHeartbeats 8000000 in
theorem step_enter (h : All w0 w p lab A n (some (x : Int)) N T cs sh bi bb bo vi vo ins ord) (hx : x < N) (h1 : (A.wk (x : Int)).st = 1) (hs : (sh x).s = 1) (ho : ord.length ≤ 100000) :
    Calls Try.prog 121 #[.pointer (some ⟨cs x, 0, none⟩), .pointer (some ⟨p, 0, none⟩), .int .i64 x] w fun e w' => e = .returned undef ∧ Stp w0 w' p (n + 2) x N T cs bi bb bo (sm (fun i => phi (sh i)) N) ord.length := by
  have hnob := h.lk.nobody hx h1 hs
  have hfirst := h.lk.first hx h1 (.inl hs)
  have hnm := h.lk.nm x hx
  obtain ⟨tl, htl⟩ := head_cons hfirst
  have HHO := hid (Holder_any h.sc 3 (isI_of (by omega) (by omega)))
  have hfs : fstI (A.lk 3) = .tuple #[.int .i64 x, .bool true] := by rw [htl]; rfl
  rw [hfs] at HHO
  have hlk := h.lk.enter hx hs h1
  have hphi := phi_enter (sh x) hs (hnm.2.1 (.inl hs))
  have hlw := h.lw
  have hsc := h.sc
  have htk := h.tk
  rw [hnob] at hlw
  clear h hfirst htl hfs hnm h1
  obtain ⟨c0, c1, c2, c3, c4, c5, c6, hf⟩ := hlw.cells hx
  rw [hs] at c3
  replace c3 : w.cell? ⟨cs x, 3, none⟩ = some (.int .i64 1) := c3
  obtain ⟨ai, ci, ei⟩ := owns_slice hlw.ri.1
  subst ei
  have cbi : w.cell? ⟨bi, 0, none⟩ = some (.slice ai 0 ci) := cell_of hlw.hi rfl
  have cbb : w.cell? ⟨bb, 0, none⟩ = some (.bool false) := cell_of hlw.hb rfl
  have fbb : w.frozen? ⟨bb, 0, none⟩ = false := froz_of hlw.hb 0
  have hbd : Below w.heap.size w w.drew := (Below.refl _ w).drew
  obtain ⟨l1, m1⟩ := (hlw.keep (Keep.below (lab := lab) hbd)).setB
  have s1 := (hsc.below hbd).outside m1 (fun b e => by rw [e]; exact (hlw.own bb (.inr (.inl rfl))).1)
  obtain ⟨W1, hW1⟩ : ∃ W1, W1 = w.drew.setCell ⟨bb, 0, none⟩ (.bool false) := ⟨_, rfl⟩
  rw [← hW1] at l1 s1
  have y1 : W1.cell? ⟨cs x, 5, none⟩ = some (.pointer (some ⟨bb, 0, none⟩)) ∧ W1.cell? ⟨bb, 0, none⟩ = some (.bool false) ∧ W1.cell? ⟨cs x, 4, none⟩ = some (.pointer (some ⟨bi, 0, none⟩)) ∧ W1.cell? ⟨bi, 0, none⟩ = some (.slice ai 0 ci) := ⟨(l1.cells hx).2.2.2.2.2.1, cell_of l1.hb rfl, (l1.cells hx).2.2.2.2.1, cell_of l1.hi rfl⟩
  have nI : ∀ g, (Value.slice ai ([] : List Int).length ci).ownBlock = some g → g ≠ bi ∧ g ≠ cs x := fun g hg => ⟨(l1.rn g (.inl hg)).1, (l1.rn g (.inl hg)).2.2.2 x hx⟩
  obtain ⟨a2, n2, b2, a3, n3, b3, w3, ev2, r1, r2, r3, hapI, r4, r5, r6, hr3, hm3, hv3⟩ := pushed l1.ri l1.low.2.size (fun b hb => s1.lt b hb) (by simp) (x : Int) y1.2.2.1 l1.hi nI
  obtain ⟨l2, m2⟩ := l1.pushI hr3 hm3 hv3
  have own2 : ∀ b, b = bi ∨ (Value.slice ai ([] : List Int).length ci).ownBlock = some b → lab b = .no := fun b e => e.elim (fun e => by rw [e]; exact (l1.own bi (.inl rfl)).1) (fun e => (l1.ri.2 b e).1)
  have s2 := s1.outside m2 own2
  obtain ⟨W2, hW2⟩ : ∃ W2, W2 = w3.setCell ⟨bi, 0, none⟩ (.slice a3 n3 b3) := ⟨_, rfl⟩
  rw [← hW2] at l2 s2
  have nO : ∀ g, vo.ownBlock = some g → g ≠ bo ∧ g ≠ cs x := fun g hg => ⟨(l2.rn g (.inr hg)).2.2.1, (l2.rn g (.inr hg)).2.2.2 x hx⟩
  have z6 := (l2.cells hx).2.2.2.2.2.2.1
  obtain ⟨a4, n4, b4, a5, n5, b5, w5, ev4, t1, t2, t3, hapO, t4, t5, t6, hr5, hm5, hv5⟩ := pushed l2.ro l2.low.2.size (fun b hb => s2.lt b hb) (by omega) (x : Int) z6 l2.ho nO
  obtain ⟨l3, m3⟩ := l2.pushO hr5 hm5 hv5
  have own3 : ∀ b, b = bo ∨ vo.ownBlock = some b → lab b = .no := fun b e => e.elim (fun e => by rw [e]; exact (l2.own bo (.inr (.inr rfl))).1) (fun e => (l2.ro.2 b e).1)
  have s3 := s2.outside m3 own3
  obtain ⟨W3, hW3⟩ : ∃ W3, W3 = w5.setCell ⟨bo, 0, none⟩ (.slice a5 n5 b5) := ⟨_, rfl⟩
  rw [← hW3] at l3 s3
  have lx : ∀ b, b = cs x → lab b = .no := fun b e => by rw [e]; exact (hlw.cell x hx).2.1
  have g1 := (l3.cells hx).2.1
  have g2 := (l3.cells hx).2.2.1
  have gf := (l3.cells hx).2.2.2.2.2.2.2 2
  obtain ⟨l4, m4⟩ := l3.set hx 2 (.int .i64 ((sh x).w : Nat)) { sh x with n := (sh x).w } (by unfold shC; rfl)
  have s4 := s3.outside m4 lx
  obtain ⟨W4, hW4⟩ : ∃ W4, W4 = W3.setCell ⟨cs x, 2, none⟩ (.int .i64 ((sh x).w : Nat)) := ⟨_, rfl⟩
  rw [← hW4] at l4 s4
  have g3 := (l4.cells hx).2.2.2.1
  have g4 := (l4.cells hx).2.2.2.2.2.2.2 3
  obtain ⟨l5, m5⟩ := l4.set hx 3 (.int .i64 2) { sh x with n := (sh x).w, s := 2 } (by rw [updN_same]; unfold shC; rfl)
  have s5 := s4.outside m5 lx
  have e45 : updN (updN sh x { sh x with n := (sh x).w }) x { sh x with n := (sh x).w, s := 2 } = updN sh x { sh x with n := (sh x).w, s := 2 } := by
    funext k
    unfold updN
    split <;> rfl
  rw [e45] at l5
  have HR : Hid (Stp w0 (W4.setCell ⟨cs x, 3, none⟩ (.int .i64 2)) p (n + 2) x N T cs bi bb bo (sm (fun i => phi (sh i)) N) ord.length) := hid (by
    refine ⟨lab, A, _, _, _, _, _, ⟨s5.more (by omega), hlk, l5, htk⟩, ?_, by simp⟩
    have g := sm_upd phi sh x { sh x with n := (sh x).w, s := 2 } N hx
    dsimp only at g hphi ⊢
    omega)
  have e2 := ev2
  simp only [Value.slice.injEq] at e2
  obtain ⟨rfl, hn2, rfl⟩ := e2
  subst hn2
  clear ev2 hr3 hm3 hv3 l2 m2 own2 s2 nO hr5 hm5 hv5 l3 m3 own3 s3 lx l4 m4 s4 l5 m5 s5 e45 nI hlk hphi htk l1 s1 m1 hbd hlw hsc hf ev4 hs hnob
  generalize (sh x).w = ww at *
  generalize sv _ = zz at *
  go_enter Try.func121, Try.ntmps121
  go_wp2_with fail
  refine HHO.out.mono ?_
  rintro e w1 ⟨rfl, hw1⟩
  rw [hw1]
  clear hw1
  go_upto_region 9 with fail
  rw [hW1] at y1
  go_region_held3 (fun w' => w'.cell? ⟨cs x, 5, none⟩ = some (.pointer (some ⟨bb, 0, none⟩)) ∧ w'.cell? ⟨bb, 0, none⟩ = some (.bool false) ∧ w'.cell? ⟨cs x, 4, none⟩ = some (.pointer (some ⟨bi, 0, none⟩)) ∧ w'.cell? ⟨bi, 0, none⟩ = some (.slice ai 0 ci)) ((first | exact ⟨c5, cbb, c4, cbi⟩ | exact y1)) ((fail))
  have hW1b : W1 = (w.setCell ⟨bb, 0, none⟩ (.bool false)).drew := hW1
  rw [← hW1b]
  rw [← hW1] at y1
  obtain ⟨_, _, y14, _⟩ := y1
  clear hW1 hW1b
  go_upto_region 10 with fail
  go_cut [80] (fun q wx => wx = W2)
  case first =>
    clear c0 c1 c2 c3 c5 c6 g1 g2 gf g3 g4 t1 t2 t3 t4 t5 t6 hapO z6
    go_region_law (refine step_append_run rfl _ _ 31 rfl rfl rfl hapI ?_)
    all_goals
      rw [← hW2]
      go_wp2_with fail
      go_meet
      case rel => rfl
  case rest =>
    rw [hcut]
    clear hcut hW2 hapI c0 c1 c2 c3 c4 c5 c6 y14 r1 r2 r3 r4 r5 r6
    go_upto_region 11 with fail
    go_cut [94] (fun q wx => wx = W3)
    case first =>
      clear g1 g2 gf g3 g4
      go_region_law (refine step_append_run rfl _ _ 31 rfl rfl rfl hapO ?_)
      all_goals
        rw [← hW3]
        go_wp2_with fail
        go_meet
        case rel => rfl
    case rest =>
      rw [hcut]
      clear hcut hW3 hapO
      go_upto_region 13 with fail
      rw [← hW4]
      clear hW4
      go_wp2
      go_end0
      exact ⟨rfl, HR.out⟩
end
end Go.Proofs.Ytacmdhlemolngaa
