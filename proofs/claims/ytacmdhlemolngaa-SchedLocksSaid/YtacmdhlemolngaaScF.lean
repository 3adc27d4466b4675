/- makeReady. -/
import Derived.Test.YtacmdhlemolngaaScE
namespace Go.Proofs.Ytacmdhlemolngaa
open Go.RowKit Go.Maps

def setw (l : List Wk) (x st row : Int) : List Wk := l.set x.toNat ⟨(l.getD x.toNat default).t, st, row⟩
theorem setw_len (l : List Wk) (x st row : Int) : (setw l x st row).length = l.length := by simp [setw]
def rdy (l : List Wk) (ids : List Int) : List Wk := ids.foldl (fun l x => setw l x 1 0) l
theorem rdy_len (ids : List Int) : ∀ l, (rdy l ids).length = l.length := by
  induction ids with
  | nil => intro l; rfl
  | cons x r ih => intro l; show (rdy (setw l x 1 0) r).length = _; rw [ih, setw_len]
theorem rdy_snoc (l : List Wk) (ids : List Int) (x : Int) : rdy l (ids ++ [x]) = setw (rdy l ids) x 1 0 := by simp [rdy, List.foldl_append]
def Ab.ready (A : Ab) (ids : List Int) : Ab := { A with ws := rdy A.ws ids, q := A.q ++ ids }
section
variable {w w' : World} {p n : Nat} {lab : Nat → Own} {A : Ab} {vw vq va : Value} {bs bl : Nat} {MS ML : Int → Option Value}
/-- The workers' row is written in its place. -/
theorem ScAt.inW (h : ScAt w p lab A n vw vq va bs bl MS ML) {l' : List Wk} (hl : l'.length = A.ws.length) (hr : w'.ownsRow 0 94 3 vw A.ws.length (wks l')) (hm : Mods (fun b => vw.ownBlock = some b) w w') : ScAt w' p lab { A with ws := l' } n vw vq va bs bl MS ML ∧ Keep lab w lab w' := by
  have kp : ∀ b, lab b ≠ .no → lab b ≠ .ws → w'.heap[b]? = w.heap[b]? := fun b e1 e2 => hm.block b (h.lt b e1) (fun e => e2 (h.cw.2 b e))
  refine ⟨⟨fun b hb => Nat.lt_of_lt_of_le (h.lt b hb) hm.size, (kp p (by rw [h.lp]; simp) (by rw [h.lp]; simp)).trans h.box, h.lp, ⟨by rw [hl]; exact hr, h.cw.2⟩, h.cq.keep (fun b e => kp b (by rw [e]; simp) (by rw [e]; simp)) (fun _ e => e), h.ca.keep (fun b e => kp b (by rw [e]; simp) (by rw [e]; simp)) (fun _ e => e),
    h.cs.keep (fun b e => kp b (by rw [e]; simp) (by rw [e]; simp)) (fun b k e => kp b (by rw [e]; simp) (by rw [e]; simp)) (fun _ e => e) (fun _ _ e => e), h.cl.keep (fun b e => kp b (by rw [e]; simp) (by rw [e]; simp)) (fun b k e => kp b (by rw [e]; simp) (by rw [e]; simp)) (fun _ e => e) (fun _ _ e => e)⟩, fun _ _ => rfl, hm.weak (fun b e => .inl (by rw [h.cw.2 b e]; simp))⟩
theorem ScAt.setW (h : ScAt w p lab A n vw vq va bs bl MS ML) {i g : Nat} (hi : i < A.ws.length) (hg : vw.ownBlock = some g) (st row : Int) :
    ScAt ((w.setCell ⟨g, i * 3 + 1, none⟩ (.int .i64 st)).setCell ⟨g, i * 3 + 2, none⟩ (.int .i64 row)) p lab { A with ws := setw A.ws i st row } n vw vq va bs bl MS ML ∧ Keep lab w lab ((w.setCell ⟨g, i * 3 + 1, none⟩ (.int .i64 st)).setCell ⟨g, i * 3 + 2, none⟩ (.int .i64 row)) := by
  refine h.inW (setw_len _ _ _ _) ?_ (((Mods.refl _ _).setCell _ _ _ hg).setCell _ _ _ hg)
  have h1 := owns_set (owns_set h.cw.1 hg (i * 3 + 1) (.int .i64 st)) hg (i * 3 + 2) (.int .i64 row)
  rw [wks_set A.ws i 1 _ ⟨(A.ws.getD i default).t, st, (A.ws.getD i default).row⟩ hi (by omega) (by simp [wkC])] at h1
  rw [wks_set _ i 2 _ ⟨(A.ws.getD i default).t, st, row⟩ (by simpa using hi) (by omega) (by simp [wkC, List.getD, hi])] at h1
  simpa [setw, List.set_set] using h1
theorem Mods.row {al : Nat → Prop} (hm : Mods al w w') {v : Value} {k m : Nat} {e : TypeId} {xs : List Value} (h : w.ownsRow 0 e k v m xs) (hn : ∀ g, v.ownBlock = some g → ¬ al g) : w'.ownsRow 0 e k v m xs := owns_keep h (fun g hg => hm.block g (owns_lt h hg).1 (hn g hg))
theorem append_nothing (w : World) (ty : TypeId) (a : Option Addr) (m cm : Nat) (hm : m ≤ cm) (b : Option Addr) (k : Nat) :
    (Builtin.append_ #[31, 31] ty #[.slice a m cm, .slice b 0 k]).run Try.prog w = .ok (.slice a m cm) w := by
  obtain ⟨i0, hi, hz0, hz1, hz2⟩ := info3b
  cases b with
  | none => cases a <;> simp [Builtin.append_, run_underlying Try.underlying31, sizeOf, typeInfo, hi, Builtin.lenOf, Builtin.firstCells, storeCells, hm]
  | some b =>
    have := run_firstCells_some (P := Try.prog) w 1 0 b 0 k [] (by simp) (by simp)
    cases a <;> simp [Builtin.append_, run_underlying Try.underlying31, sizeOf, typeInfo, hi, hz1, Builtin.lenOf, this, storeCells, hm]
set_option maxRecDepth 100000 in
set_option maxHeartbeats 2000000 in
theorem makeReady_at (h : ScAt w p lab A n vw vq va bs bl MS ML) (v : Value) (ids : List Int) (hv : w.ownsRow 0 3 1 v ids.length (ints ids)) (hvl : ∀ g, v.ownBlock = some g → lab g ≠ .ws ∧ lab g ≠ .box ∧ lab g ≠ .qu) (hin : ∀ x ∈ ids, A.has x = true) (hl : A.q.length + ids.length ≤ 2199023255552) (hl2 : ids.length ≤ 1099511627776) :
    Calls Try.prog 33 #[.pointer (some ⟨p, 0, none⟩), v] w fun e w' => e = .returned undef ∧ ∃ lab', Sc w' p lab' (A.ready ids) n ∧ Keep lab w lab' w' := by
  obtain ⟨a, c, rfl⟩ := owns_slice hv
  obtain ⟨ln, hln⟩ : ∃ ln, ln = ids.length := ⟨_, rfl⟩
  have H := hid h
  have HV := hid hv
  have HVL := hid hvl
  have HIN := hid hin
  have HLN := hid hln
  have HL := hid hl
  rw [← hln] at hl2 ⊢
  clear h hv hvl hin hln hl
  go_enter Try.func33, Try.ntmps33
  go_wp2
  go_loopw [8] (fun z wr => ∃ k : Nat, k ≤ ln ∧ z = .int .i64 k ∧ ScAt wr p lab { A with ws := rdy A.ws (ids.take k) } n vw vq va bs bl MS ML ∧ Mods (fun b => lab b = .ws) w wr) (fun z _ => ln - (RowKit.intOf z).toNat)
  case atStart => exact ⟨0, Nat.zero_le _, rfl, H.out, Mods.refl _ _⟩
  case round =>
    obtain ⟨k, hk, rfl, hS, hM⟩ := hrel
    have HS := hid hS
    have HM := hid hM
    by_cases hlt : k < ln
    · have hki : (k : Int) < ln := by omega
      have hkl : k < ids.length := by rw [← HLN.out]; exact hlt
      have hv1 := hM.row HV.out (fun g hg => (HVL.out g (by simpa [Value.ownBlock] using hg)).1)
      obtain ⟨gi, ci, e, hci, _⟩ := owns_int hv1 hkl
      simp only [Value.slice.injEq] at e
      obtain ⟨rfl, _, rfl⟩ := e
      have hx := HIN.out (ids.getD k 0) (by simp [List.getD, hkl])
      obtain ⟨x0, x1, x2⟩ := Ab.has_lt hx
      have e1 : ids.take (k + 1) = ids.take k ++ [ids.getD k 0] := by rw [List.take_succ_eq_append_getElem hkl]; simp [List.getD, hkl]
      have hxl : (ids.getD k 0).toNat < (rdy A.ws (ids.take k)).length := by rw [rdy_len]; exact x1
      obtain ⟨g, cg, hvw, hlg, t0, t1, t2, hf⟩ := hS.worker hxl
      have hset := (hS.setW (i := (ids.getD k 0).toNat) hxl (by rw [hvw]; rfl) 1 0)
      have hset2 := hset.1
      rw [show ({ ({ A with ws := rdy A.ws (ids.take k) } : Ab) with ws := setw (rdy A.ws (ids.take k)) ((ids.getD k 0).toNat : Nat) 1 0 } : Ab) = { A with ws := rdy A.ws (ids.take (k + 1)) } by rw [x2, e1, rdy_snoc]] at hset2
      have HST := hid hset2
      have HE1 := hid e1
      obtain ⟨c0, _⟩ := hS.cells
      rw [hvw] at c0
      simp only [rdy_len] at c0
      have x4 : ids.getD k 0 < (A.ws.length : Int) := by omega
      have f1 := hf ((ids.getD k 0).toNat * 3 + 1)
      have f2 := hf ((ids.getD k 0).toNat * 3 + 2)
      have HG := hid hlg
      clear hS hM hv1 hx hset hset2 e1 hvw hlg x2 t0 hf hxl x1
      generalize (rdy A.ws (ids.take k)).getD (ids.getD k 0).toNat default = wk at *
      generalize ids.getD k 0 = x at *
      generalize A.ws.length = wl at *
      go_wp2
      go_region
      go_wp2
      go_roundw
      case rel => exact ⟨k + 1, by omega, by go_num, HST.out.keep (by simp) (fun _ _ => rfl), HM.out.tr ((((Mods.refl _ wr).setCell g _ _ HG.out).setCell g _ _ HG.out).drew)⟩
      case measure => simp [RowKit.intOf]; omega
    · have hki : ¬ ((k : Int) < ln) := by omega
      obtain rfl : k = ln := by omega
      rw [HLN.out, List.take_length] at hS
      have hv1 : wr.ownsRow 0 3 1 (.slice a ids.length c) ids.length (ints ids) := hM.row HV.out (fun g hg e => (HVL.out g hg).1 e)
      obtain ⟨c0, c1, _⟩ := hS.cells
      have f1 := hS.froz 1
      have HF : Hid (∃ v' w2, (Builtin.append_ #[31, 31] 31 #[vq, .slice a ids.length c]).run Try.prog wr = .ok v' w2 ∧ w2.ownsRow 0 3 1 v' (A.q ++ ids).length (ints (A.q ++ ids)) ∧ Mods (fun b => vq.ownBlock = some b) wr w2 ∧ (v'.ownBlock = vq.ownBlock ∨ v'.ownBlock = some wr.heap.size)) := hid (by
        by_cases h0 : ids.length = 0
        · have e0 : ids = [] := List.eq_nil_of_length_eq_zero h0
          obtain ⟨aq, cq, hvq⟩ := owns_slice hS.cq.1
          have hle : A.q.length ≤ cq := by
            rcases hS.cq.1.2 with ⟨e1, e2⟩ | ⟨_, _, _, e1, _, _, e2, _⟩
            · rw [e2]; exact Nat.zero_le _
            · rw [hvq] at e1
              simp only [Value.slice.injEq] at e1
              rw [e1.2.2]; exact e2
          refine ⟨vq, wr, ?_, by rw [e0, List.append_nil]; exact hS.cq.1, Mods.refl _ _, .inl rfl⟩
          rw [h0, hvq]
          exact append_nothing wr _ aq _ _ hle a c
        · obtain ⟨g, cg, e, _⟩ := owns_int (j := 0) hv1 (by omega)
          simp only [Value.slice.injEq] at e
          obtain ⟨rfl, _, rfl⟩ := e
          exact app_run wr vq A.q hS.cq.1 g ids.length c ids rfl (fun i hi => by
            obtain ⟨g', c', e', hc, _⟩ := owns_int hv1 hi
            simp only [Value.slice.injEq, Option.some.injEq, Addr.mk.injEq] at e'
            obtain ⟨⟨rfl, _⟩, _⟩ := e'
            exact hc) (HL.out) _)
      rw [← HLN.out] at HF
      obtain ⟨v', w2, hap, ho, hm2, hob⟩ := HF.out
      have hnq : ¬ vq.ownBlock = some p := fun e => by have := hS.cq.2 p e; rw [hS.lp] at this; cases this
      have d1 := hm2.cell c1 hnq
      have hpl : p < wr.heap.size := hS.lt p (by rw [hS.lp]; simp)
      have hbx : w2.heap[p]? = some (.cells (boxC A vw vq va bs bl) 90 (0, 0)) := (hm2.block p hpl hnq).trans hS.box
      have z1 : w2.frozen? ⟨p, 1, none⟩ = false := froz_of hbx 1
      obtain ⟨lab', hS2, hK2⟩ := hS.toQ (w' := w2.setCell ⟨p, 1, none⟩ v') (v' := v') (l' := A.q ++ ids) (setc hbx 1 v') (owns_keep ho (fun g hg => Below.heap_setCell _ _ _ _ (fun e => by
        rcases hob with e2 | e2
        · exact hnq (by rw [← e2, hg, e])
        · rw [e2] at hg
          simp at hg e
          omega))) ((hm2.weak (fun b e => .inl (.inr e))).tr ((Mods.refl _ _).setCell _ _ _ (.inl rfl))) (fun b e => by
        rcases hob with e2 | e2
        · exact .inl (by rw [← e2]; exact e)
        · rw [e2] at e
          simp at e
          exact .inr (by omega))
      have HR := hid (show ∃ lab', Sc (w2.setCell ⟨p, 1, none⟩ v') p lab' (A.ready ids) n ∧ Keep lab w lab' (w2.setCell ⟨p, 1, none⟩ v') from ⟨lab', ⟨vw, v', va, bs, bl, MS, ML, hS2⟩, Keep.trans ⟨fun _ _ => rfl, hM.weak (fun b e => .inl (by rw [e]; simp))⟩ hK2⟩)
      obtain ⟨aq, cq, hvq⟩ := owns_slice hS.cq.1
      obtain ⟨a', c', hv'⟩ := owns_slice ho
      subst hvq hv'
      clear hS hM hv1 ho hm2 hob hS2 hK2 hbx HF hnq hpl
      simp only [] at hap c1 d1
      generalize (A.q ++ ids).length = ln2 at *
      generalize A.q.length = ln3 at *
      go_wp2_with (at_builtin; refine wpList_append_run rfl _ _ 31 rfl rfl rfl hap ?_)
      go_end0
      exact ⟨rfl, HR.out⟩
end
end Go.Proofs.Ytacmdhlemolngaa
