/- leave, sendTo. -/
import Derived.Test.YtacmdhlemolngaaScF
import Derived.Deep.RegionHeld3
namespace Go.Proofs.Ytacmdhlemolngaa
open Go.RowKit Go.Maps

def Ab.leave (A : Ab) (x : Int) : Ab :=
  if (A.wk x).st = 1 then { A with q := A.q.erase x }
  else if (A.wk x).st = 2 then { A with sl := upd A.sl (A.wk x).row ((A.sl (A.wk x).row).erase x) }
  else if (A.wk x).st = 3 then { A with lk := upd A.lk (A.wk x).row ((A.lk (A.wk x).row).erase x) }
  else if (A.wk x).st = 4 then { A with al := A.al.filter (fun a => a.1 != x) }
  else A
theorem Ab.leave_eq (A : Ab) (x : Int) : A.leave x = if (A.wk x).st = 1 then { A with q := A.q.erase x }
  else if (A.wk x).st = 2 then { A with sl := upd A.sl (A.wk x).row ((A.sl (A.wk x).row).erase x) }
  else if (A.wk x).st = 3 then { A with lk := upd A.lk (A.wk x).row ((A.lk (A.wk x).row).erase x) }
  else if (A.wk x).st = 4 then { A with al := A.al.filter (fun a => a.1 != x) }
  else A := rfl
theorem Ab.leave_ws (A : Ab) (x : Int) : (A.leave x).ws = A.ws := by unfold Ab.leave; split <;> (try split) <;> (try split) <;> (try split) <;> rfl
/-- What became of a Sched. -/
def Goes (w w' : World) (p : Nat) (lab : Nat → Own) (A : Ab) (n : Nat) : Prop := ∃ lab', Sc w' p lab' A n ∧ Keep lab w lab' w'
theorem Goes.mods {w w1 w' : World} {p n : Nat} {lab : Nat → Own} {A : Ab} (h : Goes w1 w' p lab A n) (hb : Below w.heap.size w w1) : Goes w w' p lab A n :=
  let ⟨lab', h1, h2⟩ := h; ⟨lab', h1, (Keep.below hb).trans h2⟩
theorem Goes.later {w w1 w' : World} {p n : Nat} {lab : Nat → Own} {A : Ab} (h : Goes w w1 p lab A n) (hb : Below w1.heap.size w1 w') : Goes w w' p lab A n :=
  let ⟨lab', h1, h2⟩ := h; ⟨lab', h1.below hb, h2.trans (Keep.below hb)⟩
theorem Goes.more {w w' : World} {p n n' : Nat} {lab : Nat → Own} {A : Ab} (h : Goes w w' p lab A n) (hn : n ≤ n') : Goes w w' p lab A n' :=
  let ⟨lab', h1, h2⟩ := h; ⟨lab', h1.more hn, h2⟩
section
variable {w w' : World} {p n : Nat} {lab : Nat → Own} {A : Ab} {vw vq va : Value} {bs bl : Nat} {MS ML : Int → Option Value}
theorem ScAt.below (h : ScAt w p lab A n vw vq va bs bl MS ML) (hb : Below w.heap.size w w') : ScAt w' p lab A n vw vq va bs bl MS ML := h.keep hb.size (fun b e => hb.block b (h.lt b e))
/-- The queue's slice is set anew, behind a call that turned its row. -/
theorem ScAt.setQ (h : ScAt w p lab A n vw vq va bs bl MS ML) {w2 : World} {v' : Value} {l' : List Int} (ho : w2.ownsRow 0 3 1 v' l'.length (ints l')) (hm : Mods (fun b => vq.ownBlock = some b) w w2) (hob : v'.ownBlock = vq.ownBlock ∨ v'.ownBlock = some w.heap.size) :
    w2.cell? ⟨p, 1, none⟩ = some vq ∧ w2.frozen? ⟨p, 1, none⟩ = false ∧ Goes w (w2.setCell ⟨p, 1, none⟩ v') p lab { A with q := l' } n := by
  have hnq : ¬ vq.ownBlock = some p := fun e => by have := h.cq.2 p e; rw [h.lp] at this; cases this
  have hpl : p < w.heap.size := h.lt p (by rw [h.lp]; simp)
  have hbx : w2.heap[p]? = some (.cells (boxC A vw vq va bs bl) 90 (0, 0)) := (hm.block p hpl hnq).trans h.box
  obtain ⟨lab', hS2, hK2⟩ := h.toQ (w' := w2.setCell ⟨p, 1, none⟩ v') (v' := v') (l' := l') (setc hbx 1 v') (owns_keep ho (fun g hg => Below.heap_setCell _ _ _ _ (fun e => by
    rcases hob with e2 | e2
    · exact hnq (by rw [← e2, hg, e])
    · rw [e2] at hg
      simp at hg e
      omega))) ((hm.weak (fun b e => .inl (.inr e))).tr ((Mods.refl _ _).setCell _ _ _ (.inl rfl))) (fun b e => by
    rcases hob with e2 | e2
    · exact .inl (by rw [← e2]; exact e)
    · rw [e2] at e
      simp at e
      exact .inr (by omega))
  exact ⟨cell_of hbx rfl, froz_of hbx 1, lab', ⟨vw, v', va, bs, bl, MS, ML, hS2⟩, hK2⟩
theorem ScAt.stepS (h : ScAt w p lab A n vw vq va bs bl MS ML) {n' : Nat} {f' : Int → List Int} (hn : n ≤ n') (hs : MpStep w w' lab .ms .sl bs n' f') : Goes w w' p lab { A with sl := f' } n' := by
  obtain ⟨lab', M', hM, h1, h2, h3⟩ := hs
  obtain ⟨hS, hK⟩ := h.toS hn hM h1 h2 h3
  exact ⟨lab', ⟨vw, vq, va, bs, bl, M', ML, hS⟩, hK⟩
theorem ScAt.stepL (h : ScAt w p lab A n vw vq va bs bl MS ML) {n' : Nat} {f' : Int → List Int} (hn : n ≤ n') (hs : MpStep w w' lab .ml .lk bl n' f') : Goes w w' p lab { A with lk := f' } n' := by
  obtain ⟨lab', M', hM, h1, h2, h3⟩ := hs
  obtain ⟨hS, hK⟩ := h.toL hn hM h1 h2 h3
  exact ⟨lab', ⟨vw, vq, va, bs, bl, MS, M', hS⟩, hK⟩
theorem MpStep.cell {lab : Nat → Own} {om : Own} {own : Int → Own} {b : Nat} {f : Int → List Int} (h : MpStep w w' lab om own b n f) {c o : Nat} {v : Value} (hc : w.cell? ⟨c, o, none⟩ = some v) (h1 : lab c ≠ om) (h2 : ∀ k, lab c ≠ own k) : w'.cell? ⟨c, o, none⟩ = some v := by
  obtain ⟨_, _, _, _, _, hm⟩ := h
  exact hm.cell hc (fun e => e.elim h1 (fun ⟨k, e⟩ => h2 k e))
set_option maxRecDepth 100000 in
set_option maxHeartbeats 2000000 in
theorem leave_at (h : ScAt w p lab A n vw vq va bs bl MS ML) (x : Int) (hx : A.has x = true) (hI : IsI (A.wk x).row) (h4 : (A.wk x).st ≠ 4) (hq : A.q.length ≤ 1099511627776) (hs : (A.sl (A.wk x).row).length ≤ 1099511627776) (hl : (A.lk (A.wk x).row).length ≤ 1099511627776) (hn : n < 1099511627776) :
    Calls Try.prog 65 #[.pointer (some ⟨p, 0, none⟩), .int .i64 x] w fun e w' => e = .returned undef ∧ Goes w w' p lab (A.leave x) (n + 1) := by
  obtain ⟨x0, x1, x2⟩ := Ab.has_lt hx
  obtain ⟨c0, c1, c2, c3, _⟩ := h.cells
  obtain ⟨g, c, hvw, hlg, t0, t1, t2, _⟩ := h.worker x1
  have x4 : x < (A.ws.length : Int) := by omega
  rw [hvw] at c0
  obtain ⟨W1, hW1⟩ : ∃ W1, W1 = w.alloc (.cells #[tv (A.wk x).t, .int .i64 (A.wk x).st, .int .i64 (A.wk x).row] 94) := ⟨_, rfl⟩
  have hb1 : Below w.heap.size w W1 := by rw [hW1]; exact (Below.refl _ _).alloc (Nat.le_refl _) _
  have h1 := h.below hb1
  change w.cell? ⟨g, x.toNat * 3, none⟩ = some (tv (A.wk x).t) at t0
  change w.cell? ⟨g, x.toNat * 3 + 1, none⟩ = some (.int .i64 (A.wk x).st) at t1
  change w.cell? ⟨g, x.toNat * 3 + 2, none⟩ = some (.int .i64 (A.wk x).row) at t2
  obtain ⟨tt, htt⟩ : ∃ tt, tt = tv (A.wk x).t := ⟨_, rfl⟩
  rw [← htt] at t0 hW1
  have hts : tt = .nilIface ∨ ∃ T b, tt = .iface T (.pointer (some ⟨b, 0, none⟩)) := by rw [htt]; exact (tv_cases _).imp id (fun ⟨T, b, _, e⟩ => ⟨T, b, e⟩)
  have hp : p < w.heap.size := h.lt p (by rw [h.lp]; simp)
  have hnew : lab w.heap.size = .no := by
    cases e : lab w.heap.size <;> first | rfl | (have := h.lt w.heap.size (by rw [e]; simp); omega)
  have e1 : W1.cell? ⟨w.heap.size, 1, none⟩ = some (.int .i64 (A.wk x).st) := cell_of (by rw [hW1]; exact alloc_new w _) rfl
  have e2 : W1.cell? ⟨w.heap.size, 2, none⟩ = some (.int .i64 (A.wk x).row) := cell_of (by rw [hW1]; exact alloc_new w _) rfl
  have HLE := hid (Ab.leave_eq A x)
  generalize A.leave x = A2 at *
  have d1 := cell_later hb1 c1
  have d2 := cell_later hb1 c2
  have d3 := cell_later hb1 c3
  have HH := hid h1
  have HB := hid hb1
  have HP := hid hp
  have HNW := hid hnew
  have HT := hid hts
  clear h h1 hb1 hts htt hvw hx hp hnew
  generalize (A.wk x).row = row at *
  generalize (A.wk x).st = st at *
  generalize A.ws.length = wl at *
  by_cases s1 : st = 1
  · subst s1
    have hA2 := HLE.out
    rw [if_pos rfl] at hA2
    clear HLE
    have HA2 := hid hA2
    clear hA2
    have hcon := hid (without_any W1 vq A.q x HH.out.cq.1 hq)
    rcases HT.out with rfl | ⟨T, tb, rfl⟩
    all_goals
      subst hW1
      clear d2 d3 HT
      go_enter Try.func65, Try.ntmps65
      go_wp2_with (go_at_call 74; refine hcon.out.mono ?_; rintro e w2 ⟨a1, n1, c1', rfl, hn1, h2, h3, h4⟩; subst hn1; obtain ⟨k1, k2, k3⟩ := HH.out.setQ h2 h3 (.inl h4); have K3 := hid k3; clear k3 h2 h3 h4)
      go_end0
      exact ⟨rfl, by rw [HA2.out]; exact (K3.out.more (by omega)).mods HB.out⟩
  · by_cases s2 : st = 2
    · subst s2
      have hA2 := HLE.out
      rw [if_neg (by omega), if_pos rfl] at hA2
      clear HLE
      have HA2 := hid hA2
      clear hA2
      have HC0 := hid (HH.out.below (Below.refl _ W1).drew)
      have HCON := hid (remove_any HC0.out.cs ownS HC0.out.lt row x hI hs hn)
      have HLP := hid HH.out.lp
      rcases HT.out with rfl | ⟨T, tb, rfl⟩
      all_goals
        subst hW1
        clear d1 d3 HT
        go_enter Try.func65, Try.ntmps65
        go_wp2_with fail
        go_region_held3 (fun w' => w'.cell? ⟨p, 2, none⟩ = some (.map (some bs)) ∧ w'.cell? ⟨w.heap.size, 2, none⟩ = some (.int .i64 row)) ((first | exact ⟨d2, e2⟩ | exact HS5.out)) ((go_at_call 67; refine HCON.out.mono ?_; rintro e w5 ⟨rfl, hs5⟩; have HS5 := hid (And.intro (hs5.cell (c := p) (o := 2) d2 (by rw [HLP.out]; simp) (by rw [HLP.out]; simp)) (hs5.cell (c := w.heap.size) (o := 2) e2 (by rw [HNW.out]; simp) (by rw [HNW.out]; simp))); have HM5 := hid hs5; clear hs5))
        go_wp2
        go_end0
        exact ⟨rfl, by rw [HA2.out]; exact ((HC0.out.stepS (by omega) HM5.out).mods ((Below.refl _ _).drew)).mods HB.out⟩
    · by_cases s3 : st = 3
      · subst s3
        have hA2 := HLE.out
        rw [if_neg (by omega), if_neg (by omega), if_pos rfl] at hA2
        clear HLE
        have HA2 := hid hA2
        clear hA2
        have HC0 := hid (HH.out.below (Below.refl _ W1).drew)
        have HCON := hid (remove_any HC0.out.cl ownL HC0.out.lt row x hI hl hn)
        have HLP := hid HH.out.lp
        rcases HT.out with rfl | ⟨T, tb, rfl⟩
        all_goals
          subst hW1
          clear d1 d2 HT
          go_enter Try.func65, Try.ntmps65
          go_wp2_with fail
          go_region_held3 (fun w' => w'.cell? ⟨p, 3, none⟩ = some (.map (some bl)) ∧ w'.cell? ⟨w.heap.size, 2, none⟩ = some (.int .i64 row)) ((first | exact ⟨d3, e2⟩ | exact HS5.out)) ((go_at_call 67; refine HCON.out.mono ?_; rintro e w5 ⟨rfl, hs5⟩; have HS5 := hid (And.intro (hs5.cell (c := p) (o := 3) d3 (by rw [HLP.out]; simp) (by rw [HLP.out]; simp)) (hs5.cell (c := w.heap.size) (o := 2) e2 (by rw [HNW.out]; simp) (by rw [HNW.out]; simp))); have HM5 := hid hs5; clear hs5))
          go_wp2
          go_end0
          exact ⟨rfl, by rw [HA2.out]; exact ((HC0.out.stepL (by omega) HM5.out).mods ((Below.refl _ _).drew)).mods HB.out⟩
      · have hA2 := HLE.out
        rw [if_neg s1, if_neg s2, if_neg s3, if_neg h4] at hA2
        clear HLE
        have HA2 := hid hA2
        clear hA2
        rcases HT.out with rfl | ⟨T, tb, rfl⟩
        all_goals
          subst hW1
          clear d1 d2 d3 HT
          go_enter Try.func65, Try.ntmps65
          go_wp2
          go_end0
          exact ⟨rfl, by rw [HA2.out]; exact Goes.mods (Goes.more ⟨lab, ⟨vw, vq, va, bs, bl, MS, ML, HH.out⟩, Keep.refl _ _⟩ (by omega)) HB.out⟩
end
end Go.Proofs.Ytacmdhlemolngaa
