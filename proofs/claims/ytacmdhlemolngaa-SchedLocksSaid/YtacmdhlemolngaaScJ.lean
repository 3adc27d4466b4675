/- Spawn, oneOf, step, endStep, Pick. -/
import Derived.Test.YtacmdhlemolngaaScI
import Derived.Defers
namespace Go.Proofs.Ytacmdhlemolngaa
open Go.RowKit Go.Maps

theorem infoW : (Try.prog.info? 94).map (fun i => (i.zero, i.size, i.bytes)) = some (some (.agg #[.nilIface, .int .i64 0, .int .i64 0]), 3, 32) := by kernel_rfl
theorem infoWb : ∃ i, Try.prog.info? 94 = some i ∧ i.zero = some (.agg #[.nilIface, .int .i64 0, .int .i64 0]) ∧ i.size = 3 ∧ i.bytes = 32 := by
  have := infoW
  cases h : Try.prog.info? 94 with
  | none => rw [h] at this; cases this
  | some i => rw [h] at this; simp at this; exact ⟨i, rfl, this.1, this.2.1, this.2.2⟩
theorem tv_one (t : Option (TypeId × Nat)) : (tv t).oneCell' = true := by
  rcases tv_cases t with e | ⟨_, _, _, e⟩ <;> rw [e] <;> rfl
theorem appW_run (w : World) (v : Value) (l : List Wk) (h : w.ownsRow 0 94 3 v l.length (wks l)) (sb c : Nat) (k : Wk) (hcell : ∀ j u, (wkC k)[j]? = some u → w.cell? ⟨sb, j, none⟩ = some u) (hl : l.length ≤ 549755813888) (ty : TypeId) :
    ∃ v' w', (Builtin.append_ #[84, 84] ty #[v, .slice (some ⟨sb, 0, none⟩) 1 c]).run Try.prog w = .ok v' w' ∧ w'.ownsRow 0 94 3 v' (l ++ [k]).length (wks (l ++ [k])) ∧ Mods (fun b => v.ownBlock = some b) w w' ∧ (v'.ownBlock = v.ownBlock ∨ v'.ownBlock = some w.heap.size) := by
  obtain ⟨i0, hi, hz0, hz1, hz2⟩ := infoWb
  obtain ⟨v', w', hr, ho, hg, _, hob⟩ := run_append_own_at (P := Try.prog) w 0 84 ty 94 i0 _ 3 32 Try.underlying84 hi hz0 hz1 hz2 rfl (by decide) v l.length (wks l) h ⟨sb, 0, none⟩ 1 c (wkC k) rfl
    (fun j u hj => by rw [add_addr, Nat.zero_add]; exact hcell j u hj) (fun u hu => by
      simp [wkC] at hu
      rcases hu with rfl | rfl | rfl
      · exact tv_one _
      · rfl
      · rfl) (by unfold maxLen; omega) (by omega) (Nat.zero_le _)
  refine ⟨v', w', hr, ?_, Mods.of_grown hg, hob⟩
  rw [List.length_append]
  have e : wks (l ++ [k]) = wks l ++ wkC k := by simp [wks, List.flatMap_append]
  rw [e]
  exact ho
section
variable {w w' : World} {p n : Nat} {lab : Nat → Own} {A : Ab} {vw vq va : Value} {bs bl : Nat} {MS ML : Int → Option Value}
theorem ScAt.setWs (h : ScAt w p lab A n vw vq va bs bl MS ML) {w2 : World} {v' : Value} {l' : List Wk} (ho : w2.ownsRow 0 94 3 v' l'.length (wks l')) (hm : Mods (fun b => vw.ownBlock = some b) w w2) (hob : ∀ b, v'.ownBlock = some b → vw.ownBlock = some b ∨ w.heap.size ≤ b) :
    w2.cell? ⟨p, 0, none⟩ = some vw ∧ w2.frozen? ⟨p, 0, none⟩ = false ∧ Goes w (w2.setCell ⟨p, 0, none⟩ v') p lab { A with ws := l' } n := by
  have hnq : ¬ vw.ownBlock = some p := fun e => by have := h.cw.2 p e; rw [h.lp] at this; cases this
  have hpl : p < w.heap.size := h.lt p (by rw [h.lp]; simp)
  have hbx : w2.heap[p]? = some (.cells (boxC A vw vq va bs bl) 90 (0, 0)) := (hm.block p hpl hnq).trans h.box
  obtain ⟨lab', hS2, hK2⟩ := h.toW (w' := w2.setCell ⟨p, 0, none⟩ v') (v' := v') (l' := l') (setc hbx 0 v') (owns_keep ho (fun g hg => Below.heap_setCell _ _ _ _ (fun e => by
    rcases hob g hg with e2 | e2
    · exact hnq (by rw [e2, e])
    · simp at e
      omega))) ((hm.weak (fun b e => .inl (.inr e))).tr ((Mods.refl _ _).setCell _ _ _ (.inl rfl))) hob
  exact ⟨cell_of hbx rfl, froz_of hbx 0, lab', ⟨v', vq, va, bs, bl, MS, ML, hS2⟩, hK2⟩
def Ab.spawn (A : Ab) (t : Option (TypeId × Nat)) : Ab := ({ A with ws := A.ws ++ [⟨t, 0, 0⟩] } : Ab).ready [(A.ws.length : Int)]
set_option maxRecDepth 100000 in
set_option maxHeartbeats 2000000 in
theorem Spawn_any (h : Sc w p lab A n) (F : Fit A) (T : TypeId) (b : Nat) :
    Calls Try.prog 13 #[.pointer (some ⟨p, 0, none⟩), .iface T (.pointer (some ⟨b, 0, none⟩))] w fun e w' => e = .returned (.int .i64 A.ws.length) ∧ Goes w w' p lab (A.spawn (some (T, b))) n := by
  obtain ⟨vw, vq, va, bs, bl, MS, ML, d⟩ := h
  obtain ⟨c0, _⟩ := d.cells
  have hwl := F.wl
  obtain ⟨W1, hW1⟩ : ∃ W1, W1 = w.alloc (.cells #[.iface T (.pointer (some ⟨b, 0, none⟩)), .int .i64 0, .int .i64 0] 94) := ⟨_, rfl⟩
  have hb1 : Below w.heap.size w W1 := by rw [hW1]; exact (Below.refl _ _).alloc (Nat.le_refl _) _
  have d1 := d.below hb1
  have hh1 : W1.heap[w.heap.size]? = some (.cells #[.iface T (.pointer (some ⟨b, 0, none⟩)), .int .i64 0, .int .i64 0] 94 (0, 0)) := by rw [hW1]; exact alloc_new w _
  obtain ⟨v', w2, hap, ho, hm2, hob⟩ := appW_run W1 vw A.ws d1.cw.1 w.heap.size 1 ⟨some (T, b), 0, 0⟩ (fun j u hj => cell_of hh1 (by
    have e : (wkC ⟨some (T, b), 0, 0⟩) = [.iface T (.pointer (some ⟨b, 0, none⟩)), .int .i64 0, .int .i64 0] := rfl
    rw [e] at hj
    simpa using hj)) hwl 84
  obtain ⟨k1, k2, k3⟩ := d1.setWs ho hm2 (fun g hg => by
    rcases hob with e | e
    · exact .inl (by rw [← e]; exact hg)
    · rw [e] at hg
      simp at hg
      exact .inr (by omega))
  obtain ⟨lab3, ⟨vw3, vq3, va3, bs3, bl3, MS3, ML3, d3⟩, hK3⟩ := k3
  obtain ⟨W3, hW3⟩ : ∃ W3, W3 = w2.setCell ⟨p, 0, none⟩ v' := ⟨_, rfl⟩
  rw [← hW3] at d3 hK3
  obtain ⟨W4, hW4⟩ : ∃ W4, W4 = W3.alloc (.cells #[.int .i64 A.ws.length] 3) := ⟨_, rfl⟩
  have hb4 : Below W3.heap.size W3 W4 := by rw [hW4]; exact (Below.refl _ _).alloc (Nat.le_refl _) _
  have hl4 : lab3 W3.heap.size = .no := Sc.new ⟨_, _, _, _, _, _, _, d3⟩ (Nat.le_refl _)
  have ho4 : W4.ownsRow 0 3 1 (.slice (some ⟨W3.heap.size, 0, none⟩) 1 1) 1 (ints [(A.ws.length : Int)]) := ⟨rfl, .inr ⟨W3.heap.size, 1, _, rfl, Nat.zero_le _, by rw [hW4]; exact alloc_new W3 _, Nat.le_refl _, by unfold maxLen; omega, rfl, rfl⟩⟩
  have HMR := hid (makeReady_at (d3.below hb4) (.slice (some ⟨W3.heap.size, 0, none⟩) 1 1) [(A.ws.length : Int)] ho4 (fun g hg => by simp [Value.ownBlock] at hg; rw [← hg, hl4]; simp) (fun x hx => by simp at hx; rw [hx]; unfold Ab.has; simp; omega) (by have := F.q; simp; omega) (by simp))
  have hs3 : W3.heap.size = w2.heap.size := by rw [hW3]; simp [World.setCell]
  rw [hs3] at HMR
  have HK := hid ((Keep.below hb1).trans (hK3.trans (Keep.below hb4)))
  obtain ⟨aw, cw, hvw⟩ := owns_slice d.cw.1
  obtain ⟨aw', cw', hvw'⟩ := owns_slice ho
  have HA2 := hid (show A.spawn (some (T, b)) = ({ A with ws := A.ws ++ [⟨some (T, b), 0, 0⟩] } : Ab).ready [(A.ws.length : Int)] from rfl)
  generalize A.spawn (some (T, b)) = A2 at *
  rw [← HA2.out] at HMR
  have HW3 := hid hW3
  subst hvw hvw'
  clear d d1 d3 hK3 ho hm2 hob hb1 hb4 hl4 ho4 hh1 HA2 F hs3
  generalize (A.ws ++ [(⟨some (T, b), 0, 0⟩ : Wk)]).length = ln2 at *
  generalize A.ws.length = ln at *
  go_enter Try.func13, Try.ntmps13
  go_wp2_with (at_builtin; rw [← hW1]; refine wpList_append_run rfl _ _ 84 rfl rfl rfl hap ?_)
  rw [← hW3, ← hW4]
  refine HMR.out.mono ?_
  rintro e w5 ⟨rfl, lab5, h5, hK5⟩
  have H5 := hid h5
  have HK5 := hid hK5
  clear h5 hK5
  go_wp2
  go_ret
  exact ⟨rfl, lab5, H5.out, HK.out.trans HK5.out⟩
def Ab.ended (A : Ab) (x : Int) : Ab := if (A.wk x).st = 1 ∧ x ∉ A.q then { A with stp := false, q := A.q ++ [x] } else { A with stp := false }
set_option maxRecDepth 100000 in
set_option maxHeartbeats 2000000 in
theorem endStep_any (h : Sc w p lab A n) (hq : A.q.length ≤ 549755813888) (x : Int) (hx : A.has x = true) (u : FrameMode) :
    CallsD Try.prog 63 #[.pointer (some ⟨p, 0, none⟩), .int .i64 x] u w fun e u' w' => u' = u ∧ (e = .returned undef ∧ Goes w w' p lab (A.ended x) n) := by
  obtain ⟨vw, vq, va, bs, bl, MS, ML, d⟩ := h
  have c6 := (d.cells).2.2.2.2.2.2
  have f6 := d.froz 6
  obtain ⟨W1, hW1⟩ : ∃ W1, W1 = w.setCell ⟨p, 6, none⟩ (.bool false) := ⟨_, rfl⟩
  obtain ⟨d1, hK1⟩ := d.toStp false hW1
  obtain ⟨c0, c1, _⟩ := d.cells
  obtain ⟨x0, x1, x2⟩ := Ab.has_lt hx
  have x4 : x < (A.ws.length : Int) := by omega
  obtain ⟨g, c, hvw, hlg, t0, t1, t2, _⟩ := d1.worker (i := x.toNat) x1
  have hgp : ¬ g = p := fun e => by rw [e, d.lp] at hlg; cases hlg
  have HC := hid (Contains_any W1 vq A.q x d1.cq.1 (by omega))
  subst hvw
  change w.cell? ⟨p, 0, none⟩ = some (.slice (some ⟨g, 0, none⟩) A.ws.length c) at c0
  change W1.cell? ⟨g, x.toNat * 3 + 1, none⟩ = some (.int .i64 (A.wk x).st) at t1
  obtain ⟨W2, hW2⟩ : ∃ W2, W2 = W1.alloc (.cells #[.int .i64 x] 3) := ⟨_, rfl⟩
  have hb2 : Below W1.heap.size W1 W2 := by rw [hW2]; exact (Below.refl _ _).alloc (Nat.le_refl _) _
  have d2 := d1.below hb2
  have hc2 : W2.cell? ⟨W1.heap.size, 0, none⟩ = some (.int .i64 x) := cell_of (by rw [hW2]; exact alloc_new W1 _) rfl
  obtain ⟨v', w3, hap, ho, hm3, hob⟩ := app_run W2 vq A.q d2.cq.1 W1.heap.size 1 1 [x] rfl (one_cell hc2) (by omega) 31
  obtain ⟨k1, k2, k3⟩ := d2.setQ ho hm3 hob
  have HG := hid k3
  have HB2 := hid hb2
  have HK1 := hid hK1
  have HD1 := hid d1
  have HE := hid (show A.ended x = if (A.wk x).st = 1 ∧ x ∉ A.q then { A with stp := false, q := A.q ++ [x] } else { A with stp := false } from rfl)
  obtain ⟨aq, cq, hvq⟩ := owns_slice d.cq.1
  obtain ⟨aq', cq', hvq'⟩ := owns_slice ho
  subst hvq hvq'
  generalize A.ended x = A2 at *
  have hs1 : W1.heap.size = w.heap.size := by rw [hW1]; simp [World.setCell]
  rw [hs1] at hap
  clear d d1 d2 hK1 k3 ho hm3 hob hb2 hc2 hlg t0 t2 x1 hx
  generalize (A.wk x).st = st at *
  generalize A.ws.length = wl at *
  generalize (A.q ++ [x]).length = ln2 at *
  by_cases hst : st = 1
  · by_cases hm : x ∈ A.q
    · have hE := HE.out
      rw [if_neg (fun h => h.2 hm)] at hE
      have HE2 := hid hE
      rw [decide_eq_true hm] at HC
      clear HE hE hm HG hap k1 k2 hW2
      subst hst
      generalize A.q.length = ln at *
      subst hW1
      go_enter_d Try.func63, Try.ntmps63
      go_wp2_with (go_at_call 73; refine HC.out.mono ?_; rintro e w1 ⟨rfl, hw1⟩; rw [hw1]; clear hw1)
      go_end0
      exact ⟨rfl, by rw [HE2.out]; exact ⟨lab, ⟨_, _, _, _, _, _, _, HD1.out⟩, HK1.out⟩⟩
    · have hE := HE.out
      rw [if_pos ⟨hst, hm⟩] at hE
      have HE2 := hid hE
      rw [decide_eq_false hm] at HC
      clear HE hE hm
      subst hst
      generalize A.q.length = ln at *
      subst hW1
      have hnp : ¬ p = w.heap.size := by have := HD1.out.lt p (by rw [HD1.out.lp]; simp); omega
      go_enter_d Try.func63, Try.ntmps63
      go_wp2_with (first | (go_at_call 73; refine HC.out.mono ?_; rintro e w1 ⟨rfl, hw1⟩; rw [hw1]; clear hw1) | (at_builtin; rw [← hW2]; refine wpList_append_run rfl _ _ 31 rfl rfl rfl hap ?_))
      go_end0
      exact ⟨rfl, by rw [HE2.out]; exact ((HG.out).mods HB2.out |> fun ⟨l3, k1, k2⟩ => ⟨l3, k1, HK1.out.trans k2⟩)⟩
  · have hE := HE.out
    rw [if_neg (fun h => hst h.1)] at hE
    have HE2 := hid hE
    have hsb : (st == 1) = false := by simpa using hst
    clear HE hE HG hap k1 k2 hW2 HC
    generalize A.q.length = ln at *
    subst hW1
    go_enter_d Try.func63, Try.ntmps63
    go_wp2
    go_end0
    exact ⟨rfl, by rw [HE2.out]; exact ⟨lab, ⟨_, _, _, _, _, _, _, HD1.out⟩, HK1.out⟩⟩
end
end Go.Proofs.Ytacmdhlemolngaa
