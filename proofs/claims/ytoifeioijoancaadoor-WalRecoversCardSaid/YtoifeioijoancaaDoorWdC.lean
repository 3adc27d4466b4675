/- lay. -/
import Derived.Test.YtoifeioijoancaaDoorWdB
import Derived.Deep.RegionHeld3
namespace Go.Proofs.YtoifeioijoancaaDoor
open Go.RowKit Go.Maps
set_option linter.unusedVariables false

theorem step_append_run {P : Program} {ops : Array Oper} {o : Oper} {a : Act} {w : World} {K : Act → World → Prop} {Q : Exit → Act → World → Prop} {E : Prop} (hgd : o.guard = none) (s x : Operand) (t : TypeId)
    (ho : o.op = .call { callee := .builtin .append, args := #[s, x], argTypes := #[t, t] }) {v y v' : Value} {w' : World} (hs : a.eval s = v) (hx : a.eval x = y)
    (hrun : (Builtin.append_ #[t, t] o.type #[v, y]).run P w = .ok v' w') (h : K (a.put o.dst v') w') :
    if Region.wanted o (yielded ops a.tmps) = true then Oper.wp P o a w K Q else E := by
  have hw : Region.wanted o (yielded ops a.tmps) = true := by simp [Region.wanted, hgd]
  rw [if_pos hw]
  unfold Oper.wp execOp
  simp only [ho, resolve, invoke, builtin, Sem.run_bind, Sem.run_pure, Result.andThen_ok, List.map_toArray, List.map_cons, List.map_nil, hs, hx, hrun]
  exact h
def layS (l : List Pt) (p : Pt) : List Pt := if posP l p.blk < l.length then l.set (posP l p.blk) p else l ++ [p]
def joinL (l ps : List Pt) : List Pt := ps.foldl layS l
theorem layS_blks (l : List Pt) (p : Pt) : (layS l p).map Pt.blk = if p.blk ∈ l.map Pt.blk then l.map Pt.blk else l.map Pt.blk ++ [p.blk] := by
  unfold layS
  by_cases h : posP l p.blk < l.length
  · rw [if_pos h, if_pos ((posP_mem l p.blk).1 h), List.map_set]
    apply List.ext_getElem?
    intro i
    rw [List.getElem?_set]
    split
    · rename_i e
      subst e
      have := posP_at h
      simp only [List.getD, List.getElem?_eq_getElem h, Option.getD_some] at this
      simp [h, this]
    · rfl
  · rw [if_neg h, if_neg (fun e => h ((posP_mem l p.blk).2 e)), List.map_append]
    rfl
theorem layS_fine {l : List Pt} {p : Pt} (h : Fine l) (hp : 0 ≤ p.blk ∧ p.blk < 4294967296 ∧ p.dat.length = 512) (hm : (layS l p).length ≤ 64) : Fine (layS l p) := by
  refine ⟨hm, fun q hq => ?_, ?_⟩
  · unfold layS at hq
    split at hq
    · rcases List.mem_or_eq_of_mem_set hq with h1 | h1
      · exact h.ok q h1
      · rw [h1]; exact hp
    · rcases List.mem_append.1 hq with h1 | h1
      · exact h.ok q h1
      · simp at h1; rw [h1]; exact hp
  · rw [layS_blks]
    split
    · exact h.once
    · rename_i e
      rw [List.nodup_append]
      refine ⟨h.once, by simp, fun a ha b hb => ?_⟩
      simp at hb
      subst hb
      exact fun e2 => e (e2 ▸ ha)
theorem cellsP_set (L : List Pw) (i : Nat) (q : Pw) (h : i < L.length) : cellsP (L.set i q) = ((cellsP L).set (i * 2) (.int .i64 q.blk)).set (i * 2 + 1) (.slice q.a q.dat.length q.c) := by
  induction L generalizing i with
  | nil => simp at h
  | cons x L ih =>
    cases i with
    | zero => simp [cellsP]
    | succ i =>
      have e : ∀ M : List Pw, cellsP (x :: M) = .int .i64 x.blk :: .slice x.a x.dat.length x.c :: cellsP M := fun M => rfl
      rw [List.set_cons_succ, e, e, ih i (by simpa using h), show (i + 1) * 2 = i * 2 + 1 + 1 by omega, show i * 2 + 1 + 1 + 1 = i * 2 + 1 + 1 + 1 by rfl]
      simp only [List.set_cons_succ]
/-- An element of a row is set. -/
theorem PO.set {w : World} {S : Nat → Prop} {v : Value} {L : List Pw} (h : PO w S v L) {g : Nat} (hg : v.ownBlock = some g) (i : Nat) (hi : i < L.length) (q : Pw) (hq : By w S q.a q.dat) (hc : q.dat.length ≤ q.c) :
    PO ((w.setCell ⟨g, i * 2, none⟩ (.int .i64 q.blk)).setCell ⟨g, i * 2 + 1, none⟩ (.slice q.a q.dat.length q.c)) S v (L.set i q) := by
  have hm : Mods (fun b => b = g) w ((w.setCell ⟨g, i * 2, none⟩ (.int .i64 q.blk)).setCell ⟨g, i * 2 + 1, none⟩ (.slice q.a q.dat.length q.c)) := ((Mods.refl (fun b => b = g) w).setCell g _ _ rfl).setCell g _ _ rfl
  have h5 : ∀ x cur fr, x = g → w.heap[x]? = some (.cells cur 5 fr) → False := fun x cur fr e e2 => owns_other (t := 5) h.1 (by decide) x cur fr (by rw [e]; exact hg) e2
  refine ⟨?_, h.2.1, fun r hr => ?_⟩
  · rw [List.length_set, cellsP_set L i q hi]
    exact owns_set (owns_set h.1 hg _ _) hg _ _
  · rcases List.mem_or_eq_of_mem_set hr with h1 | h1
    · exact ⟨(h.2.2 r h1).1.mods hm h5, (h.2.2 r h1).2⟩
    · rw [h1]; exact ⟨hq.mods hm h5, hc⟩
theorem PO.mods2 {w w' : World} {S M : Nat → Prop} {v : Value} {L : List Pw} (h : PO w S v L) (hm : Mods M w w') (h5 : ∀ g cur fr, M g → w.heap[g]? = some (.cells cur 5 fr) → False) (ho : ∀ g, v.ownBlock = some g → M g → False) : PO w' S v L :=
  ⟨owns_keep h.1 (fun g hg => hm.block g (owns_lt h.1 hg).1 (ho g hg)), h.2.1, fun p hp => ⟨(h.2.2 p hp).1.mods hm h5, (h.2.2 p hp).2⟩⟩
theorem map_set_pt (L : List Pw) (i : Nat) (q : Pw) : (L.set i q).map Pw.pt = (L.map Pw.pt).set i q.pt := by rw [List.map_set]
section
variable {w : World} {p : Nat} {S : Nat → Prop} {A : Lg} {v1 v2 : Value} {L1 L2 : List Pw}
set_option maxRecDepth 100000 in
set_option maxHeartbeats 4000000 in
theorem lay_any (h : LoAt w p S A v1 v2 L1 L2) (T : Nat → Prop) (q : Pw) (hq : By w T q.a q.dat) (hq2 : q.dat.length ≤ q.c) (hok : 0 ≤ q.blk ∧ q.blk < 4294967296 ∧ q.dat.length = 512) (hm : (layS A.opn q.pt).length ≤ 64) :
    Calls Tryd.prog 61 #[.pointer (some ⟨p, 3, none⟩), .agg #[.int .i64 q.blk, .slice q.a 512 q.c]] w fun e w' => e = .returned (.tuple #[]) ∧ ∃ S', Lo w' p S' { A with opn := layS A.opn q.pt } ∧ Kp S w S' w' := by
  obtain ⟨W1, hW1⟩ : ∃ W1, W1 = w.alloc (.cells #[.int .i64 q.blk, .slice q.a 512 q.c] 29) := ⟨_, rfl⟩
  have hb1 : Below w.heap.size w W1 := by rw [hW1]; exact (Below.refl _ _).alloc (Nat.le_refl _) _
  have hh1 : W1.heap[w.heap.size]? = some (.cells #[.int .i64 q.blk, .slice q.a 512 q.c] 29 (0, 0)) := by rw [hW1]; exact alloc_new w _
  have hc1 : W1.cell? ⟨w.heap.size, 1, none⟩ = some (.slice q.a 512 q.c) := cell_of hh1 rfl
  have HC1 := hid (Clone_any W1 T q.a 512 q.c q.dat hok.2.2 (by omega) (by omega) (hq.later hb1))
  have HB1 := hid hb1
  have HH1 := hid hh1
  have HLO := hid h
  have HOK := hid hok
  have HMM := hid hm
  clear h hq hb1 hh1 hok hm
  go_enter Tryd.func61, Tryd.ntmps61
  go_wp2_with (rw [← hW1])
  clear hW1
  refine HC1.out.mono ?_
  rintro e w2 ⟨a2, c2, rfl, hc2, hy2, hb2, ho2⟩
  have hh2 : w2.heap[w.heap.size]? = some (.cells #[.int .i64 q.blk, .slice q.a 512 q.c] 29 (0, 0)) := (hb2.block _ (Array.getElem?_eq_some_iff.1 HH1.out).1).trans HH1.out
  have hc0 : w2.cell? ⟨w.heap.size, 0, none⟩ = some (.int .i64 q.blk) := cell_of hh2 rfl
  have hc1' : w2.cell? ⟨w.heap.size, 1, none⟩ = some (.slice q.a 512 q.c) := cell_of hh2 rfl
  have hf2 := fun i => froz_of hh2 i
  obtain ⟨W3, hW3⟩ : ∃ W3, W3 = w2.setCell ⟨w.heap.size, 1, none⟩ (.slice a2 512 c2) := ⟨_, rfl⟩
  have hh3 : W3.heap[w.heap.size]? = some (.cells #[.int .i64 q.blk, .slice a2 512 c2] 29 (0, 0)) := by rw [hW3]; exact setc hh2 1 _
  have hbw2 : Below w.heap.size w w2 := HB1.out.trans (hb2.mono HB1.out.size)
  have hbw3 : Below w.heap.size w W3 := by rw [hW3]; exact hbw2.setCell (Nat.le_refl _) _
  have hy3 : By W3 (New W1) a2 q.dat := by
    rw [hW3]
    refine hy2.mods ((Mods.refl (fun b => b = w.heap.size) w2).setCell w.heap.size 1 _ rfl) (fun g cur fr e e2 => ?_)
    subst e; rw [hh2] at e2; simp at e2
  have h3 := HLO.out.later hbw3
  obtain ⟨c0, c1, c2', c3, c4, c5, c6, c7, c8, c9, c10⟩ := h3.cells
  obtain ⟨a1, k1, e1, _, hp1⟩ := h3.o1.ps
  subst e1
  have HAT := hid (fun W (hb : Below W3.heap.size W3 W) => at_any W S p 3 a1 k1 L1 q.blk (cell_later hb c4) (hp1.later hb) (by rw [h3.l1]; have := h3.f1.many; omega))
  rw [h3.e1] at HAT
  have d0 : W3.cell? ⟨w.heap.size, 0, none⟩ = some (.int .i64 q.blk) := cell_of hh3 rfl
  have d1 : W3.cell? ⟨w.heap.size, 1, none⟩ = some (.slice a2 512 c2) := cell_of hh3 rfl
  have HB3 := hid hbw3
  have HH3 := hid hh3
  have HY3 := hid hy3
  have H3 := hid h3
  have HC2 := hid hc2
  have hW1s : w.heap.size < W1.heap.size := (Array.getElem?_eq_some_iff.1 HH1.out).1
  have hpp : p < w.heap.size := HLO.out.lt p HLO.out.own
  clear hb2 ho2 hy2 hbw2 hbw3 hy3 h3 hh2 hh3 hc2 hp1 HC1 c0 c1 c2' c3 c5 c6 c7 c8 c9 c10
  obtain ⟨ix, hix⟩ : ∃ ix, ix = idxP A.opn q.blk := ⟨_, rfl⟩
  rw [← hix] at HAT
  have HIX := hid hix
  clear hix
  go_wp2_with (rw [← hW3])
  clear hW3 hc0 hc1' hf2
  go_region_held3 (fun w' => w'.cell? ⟨w.heap.size, 0, none⟩ = some (.int .i64 q.blk)) ((first | exact d0 | exact HS5.out))
    ((go_at_call 79; refine (HAT.out _ (by first | exact (Below.refl _ W3) | exact (Below.refl _ W3).drew)).mono ?_; rintro e w5 ⟨rfl, hb5⟩; have HB5 : Hid (Below W3.heap.size W3 w5) := hid (by first | exact hb5 | exact ((Below.refl _ W3).drew).trans hb5); have HS5 := hid (cell_later HB5.out d0); clear hb5))
  have h5 := H3.out.later HB5.out
  have hbw5 : Below w.heap.size w w5 := HB3.out.trans (HB5.out.mono HB3.out.size)
  have hh5 : w5.heap[w.heap.size]? = some (.cells #[.int .i64 q.blk, .slice a2 512 c2] 29 (0, 0)) := (HB5.out.block _ (Array.getElem?_eq_some_iff.1 HH3.out).1).trans HH3.out
  have hy5 : By w5 (New W1) a2 q.dat := HY3.out.later HB5.out
  have d0' : w5.cell? ⟨w.heap.size, 0, none⟩ = some (.int .i64 q.blk) := cell_of hh5 rfl
  have d1' : w5.cell? ⟨w.heap.size, 1, none⟩ = some (.slice a2 512 c2) := cell_of hh5 rfl
  have hln : L1.length = A.opn.length := h5.l1
  have c4' : w5.cell? ⟨p, 4, none⟩ = some (.slice a1 L1.length k1) := h5.cells.2.2.2.2.1
  by_cases hpos : posP A.opn q.blk < A.opn.length
  · have hixe : ix = ((posP A.opn q.blk : Nat) : Int) := by rw [HIX.out]; unfold idxP; rw [if_pos hpos]
    have hlay : layS A.opn q.pt = A.opn.set (posP A.opn q.blk) q.pt := by unfold layS; rw [show q.pt.blk = q.blk from rfl, if_pos hpos]
    obtain ⟨k, hk⟩ : ∃ k, k = posP A.opn q.blk := ⟨_, rfl⟩
    rw [← hk] at hpos hixe hlay
    subst hixe
    obtain ⟨g1, k1', cur1, e1, hSg, hh1', hle1, hmx1, hcs1, hps1⟩ := h5.o1.heap (by omega)
    simp only [Value.slice.injEq] at e1
    obtain ⟨rfl, e1b, rfl⟩ := e1
    clear e1b
    obtain ⟨n1, hn1⟩ : ∃ n1, n1 = L1.length := ⟨_, rfl⟩
    have hkL : k < L1.length := by omega
    have hx0 : ∃ v, w5.cell? ⟨g1, k * 2, none⟩ = some v := by
      have : k * 2 < cur1.size := by omega
      exact ⟨cur1[k * 2], by simp [World.cell?, hh1', this]⟩
    have hx1 : ∃ v, w5.cell? ⟨g1, k * 2 + 1, none⟩ = some v := by
      have : k * 2 + 1 < cur1.size := by omega
      exact ⟨cur1[k * 2 + 1], by simp [World.cell?, hh1', this]⟩
    obtain ⟨x0, hx0⟩ := hx0
    obtain ⟨x1, hx1⟩ := hx1
    have hf1 := fun i => froz_of hh1' i
    have hki : (k : Int) < n1 := by omega
    rw [← hn1] at c4'
    have hne : g1 ≠ w.heap.size := fun e => by have := HLO.out.lt g1 hSg; omega
    have hnp : g1 ≠ p := fun e => by rw [e, h5.box] at hh1'; simp at hh1'
    have HQ : Hid (∀ W, W.heap = ((w5.setCell ⟨g1, k * 2, none⟩ (.int .i64 q.blk)).setCell ⟨g1, k * 2 + 1, none⟩ (.slice a2 512 c2)).heap → Mods (fun b => b = g1) w5 W → ∃ S', Lo W p S' { A with opn := layS A.opn q.pt } ∧ Kp S w S' W) := hid (fun W hW hM => by
      have hbase : LoAt w5 p (fun b => S b ∨ (New W1 b ∧ b < w5.heap.size)) A (.slice (some ⟨g1, 0, none⟩) L1.length k1) v2 L1 L2 := ⟨h5.box, .inl h5.own, fun b hb => hb.elim (h5.lt b) (fun e => e.2), h5.o1.weak (fun b hb _ => .inl hb), h5.e1, h5.o2.weak (fun b hb _ => .inl hb), h5.e2, h5.sep, h5.f1, h5.f2⟩
      have hpo := PO.set hbase.o1 (g := g1) rfl k hkL ⟨q.blk, a2, c2, q.dat⟩ (hy5.weak (fun b hb hl => .inr ⟨hb, hl⟩)) (by simp only; rw [HOK.out.2.2]; exact HC2.out)
      simp only [HOK.out.2.2] at hpo
      have hkeep : ∀ b, b ≠ g1 → b < w5.heap.size → W.heap[b]? = w5.heap[b]? := fun b hb hl => hM.block b hl hb
      refine ⟨fun b => S b ∨ (New W1 b ∧ b < w5.heap.size), ⟨_, _, L1.set k ⟨q.blk, a2, c2, q.dat⟩, L2, ⟨?_, .inl h5.own, fun b hb => Nat.lt_of_lt_of_le (hbase.lt b hb) hM.size, ?_, ?_, ?_, h5.e2, h5.sep, ?_, h5.f2⟩⟩, ?_, ?_⟩
      · exact (hkeep p (Ne.symm hnp) (Nat.lt_of_lt_of_le hpp hbw5.size)).trans h5.box
      · have := hpo.keep (w' := W) (fun b _ _ => by rw [hW])
        exact this
      · rw [map_set_pt, h5.e1, hlay]; rfl
      · refine hbase.o2.mods2 hM (fun g cur fr e e2 => ?_) (fun g e e2 => h5.sep g1 rfl (by rw [← e2]; exact e))
        subst e; rw [hh1'] at e2; simp at e2
      · exact layS_fine h5.f1 HOK.out HMM.out
      · intro b hb
        rcases hb with h1 | h1
        · exact .inl h1
        · exact .inr (by have : W1.heap.size ≤ b := h1.1; omega)
      · exact (Mods.of_below hbw5).trans hM (fun b e => by rw [e]; exact .inl hSg))
    clear h5 hbw5 hh5 hy5 hln hpos hlay hk hn1 hkL hh1' hle1 hmx1 hcs1 hps1 hSg d0 d1 HB5 HS5 HAT
    go_wp2
    go_region
    go_wp2
    refine bodyPost_ret (results_none rfl _ _ _) rfl ⟨rfl, HQ.out _ rfl ?_⟩
    exact (((Mods.refl (fun b => b = g1) w5).setCell g1 _ _ rfl).setCell g1 _ _ rfl).drew
  · have hixe : ix = -1 := by rw [HIX.out]; unfold idxP; rw [if_neg hpos]
    subst hixe
    have hlay : layS A.opn q.pt = A.opn ++ [q.pt] := by unfold layS; rw [show q.pt.blk = q.blk from rfl, if_neg hpos]
    obtain ⟨W6, hW6⟩ : ∃ W6, W6 = w5.alloc (.cells #[.int .i64 q.blk, .slice a2 512 c2] 29) := ⟨_, rfl⟩
    have hb6 : Below w5.heap.size w5 W6 := by rw [hW6]; exact (Below.refl _ _).alloc (Nat.le_refl _) _
    have hh6 : W6.heap[w5.heap.size]? = some (.cells #[.int .i64 q.blk, .slice a2 512 c2] 29 (0, 0)) := by rw [hW6]; exact alloc_new w5 _
    have h6 := h5.later hb6
    have hy6 := (hy5.weak (S' := fun b => S b ∨ (New W1 b ∧ b < w5.heap.size)) (fun b hb hl => .inr ⟨hb, hl⟩)).later hb6
    obtain ⟨a7, n7, c7, w7, hap, hn7, hpo7, hm7, hob7⟩ := PO.push (w := W6.drew) (S := fun b => S b ∨ (New W1 b ∧ b < w5.heap.size)) (v := .slice a1 L1.length k1) (L := L1) ((h6.o1.weak (fun b hb _ => .inl hb))) ⟨q.blk, a2, c2, q.dat⟩ hy6 (by simp only; rw [HOK.out.2.2]; exact HC2.out) w5.heap.size 0 (cell_of (w := W6) hh6 rfl) (by simp only; rw [HOK.out.2.2]; exact cell_of (w := W6) hh6 rfl) 1 (by have := h5.f1.many; omega) 25
    have hs6 : W6.heap.size = w5.heap.size + 1 := by rw [hW6]; simp
    have hm7' : Mods (fun b => (Value.slice a1 L1.length k1).ownBlock = some b) W6 w7 := ((Mods.refl _ W6).drew).tr hm7
    have hpk : ∀ cur fr t, t ≠ 110 → W6.heap[p]? = some (.cells cur t fr) → False := fun cur fr t ht e => by rw [h6.box] at e; simp at e; exact ht e.2.1.symm
    have hbox7 : w7.heap[p]? = some (.cells (lgC A (.slice a1 L1.length k1) v2) 110 (0, 0)) := (hm7'.block p (h6.lt p h6.own) (fun e => by
      obtain ⟨cur, hcur⟩ := owns_kind h6.o1.1 e
      exact hpk cur _ 29 (by decide) hcur)).trans h6.box
    have hbox5 : w5.cell? ⟨p, 4, none⟩ = some (.slice a1 L1.length k1) := c4'
    have e41 := cell_later hb6 c4'
    have e51 := cell_later hb6 d0'
    have e61 := cell_later hb6 d1'
    have e71 : w7.cell? ⟨p, 4, none⟩ = some (.slice a1 L1.length k1) := cell_of hbox7 rfl
    have f71 : w7.frozen? ⟨p, 4, none⟩ = false := froz_of hbox7 4
    have HQ : Hid (∀ W, W.heap = (w7.setCell ⟨p, 4, none⟩ (.slice a7 n7 c7)).heap → Mods (fun b => b = p) w7 W → ∃ S', Lo W p S' { A with opn := layS A.opn q.pt } ∧ Kp S w S' W) := hid (fun W hW hM => by
      have h5' : ∀ g cur fr, g = p → w7.heap[g]? = some (.cells cur 5 fr) → False := fun g cur fr e e2 => by subst e; rw [hbox7] at e2; simp at e2
      have hP' : ∀ g cur fr, g = p → w7.heap[g]? = some (.cells cur 29 fr) → False := fun g cur fr e e2 => by subst e; rw [hbox7] at e2; simp at e2
      have hwk : ∀ b, (S b ∨ (New W1 b ∧ b < w5.heap.size)) ∨ b = W6.drew.heap.size → b < w7.heap.size → S b ∨ (w.heap.size ≤ b ∧ b < w7.heap.size) := fun b hb hl => by
        rcases hb with (h1 | h1) | h1
        · exact .inl h1
        · exact .inr ⟨by have : W1.heap.size ≤ b := h1.1; omega, hl⟩
        · exact .inr ⟨by rw [h1]; show w.heap.size ≤ W6.heap.size; have := hbw5.size; omega, hl⟩
      have hsz7 : W6.heap.size ≤ w7.heap.size := hm7'.size
      have ho2 : PO w7 (fun b => S b ∨ (w.heap.size ≤ b ∧ b < w7.heap.size)) v2 L2 := (h6.o2.mods2 hm7' (owns_other h6.o1.1 (by decide)) (fun g e e2 => h6.sep g e2 e)).weak (fun b hb _ => .inl hb)
      refine ⟨fun b => S b ∨ (w.heap.size ≤ b ∧ b < w7.heap.size), ⟨.slice a7 n7 c7, v2, L1 ++ [⟨q.blk, a2, c2, q.dat⟩], L2, ⟨?_, .inl h5.own, fun b hb => ?_, ?_, ?_, ?_, h5.e2, ?_, ?_, h5.f2⟩⟩, ?_, ?_⟩
      · rw [hW]; exact setc hbox7 4 _
      · have := hM.size
        rcases hb with h1 | h1
        · have := h6.lt b h1; omega
        · omega
      · exact (hpo7.weak hwk).mods hM h5' hP'
      · rw [List.map_append, h5.e1, hlay]; rfl
      · exact ho2.mods hM h5' hP'
      · intro g e1 e2
        rcases hob7 with e | e
        · exact h5.sep g (by rw [← e]; exact e1) e2
        · rw [e] at e1
          simp at e1
          have := (owns_lt h6.o2.1 e2).1
          have e3 : W6.heap.size = g := e1
          omega
      · exact layS_fine h5.f1 HOK.out HMM.out
      · intro b hb
        rcases hb with h1 | h1
        · exact .inl h1
        · exact .inr h1.1
      · have hb6w : Below w.heap.size w W6 := hbw5.trans (hb6.mono hbw5.size)
        have m1 : Mods S w w7 := (Mods.of_below hb6w).trans hm7' (fun b e => .inl (h6.o1.2.1 b e))
        exact m1.trans hM (fun b e => by rw [e]; exact .inl h5.own))
    have hap2 : (Builtin.append_ #[25, 25] 25 #[.slice a1 L1.length k1, .slice (some ⟨w5.heap.size, 0, none⟩) 1 1]).run Tryd.prog (w5.alloc (.cells #[.int .i64 q.blk, .slice a2 512 c2] 29)).drew = .ok (.slice a7 n7 c7) w7 := by rw [← hW6]; exact hap
    rw [hW6] at e41 e51 e61
    clear hW6 hb6 hh6 h6 hy6 hap hn7 hpo7 hm7 hob7 hs6 hm7' hpk hbox7 hbox5 h5 hbw5 hh5 hy5 hln hpos hlay d0 d1 HB5 HS5 HAT
    generalize L1.length = n1 at *
    go_wp2
    go_region_law (refine step_append_run rfl _ _ 25 rfl rfl rfl hap2 ?_)
    all_goals
      go_end0
      exact ⟨rfl, HQ.out _ rfl ((Mods.refl (fun b => b = p) w7).setCell p 4 _ rfl)⟩
end
end Go.Proofs.YtoifeioijoancaaDoor
