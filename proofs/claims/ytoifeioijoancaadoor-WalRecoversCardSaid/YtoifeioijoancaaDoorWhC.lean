/- 'append(append([]api.Put{}, h...), t)', in whatever order its parts come. -/
import Derived.Test.YtoifeioijoancaaDoorWgA
import Derived.Test.YtoifeioijoancaaDoorWhD
import Derived.Deep.Upon
namespace Go.Proofs.YtoifeioijoancaaDoor
open Go.RowKit Go.Maps
set_option linter.unusedVariables false

theorem Ps.cells {w : World} {S : Nat → Prop} {b off : Nat} {L : List Pw} (h : Ps w S (some ⟨b, off, none⟩) L) : ∀ j u, (cellsP L)[j]? = some u → w.cell? ((⟨b, off, none⟩ : Addr).add j) = some u := fun j u hj => by
  have hj2 : j < L.length * 2 := by have := (List.getElem?_eq_some_iff.1 hj).1; rw [cellsP_len] at this; exact this
  obtain ⟨b', off', cur, ea, _, hh, hcur⟩ := h.2 (by omega)
  simp only [Option.some.injEq, Addr.mk.injEq, and_true] at ea
  obtain ⟨rfl, rfl⟩ := ea
  rw [add_addr]
  simp only [World.cell?, hh, hcur j hj2, hj]
  rfl
/-- A row of blocks behind an empty one of one's own. -/
theorem twinP (U : World) (S : Nat → Prop) (p : Nat) (hp : U.heap[p]? = some (.cells #[] 29 (0, 0))) (a : Option Addr) (n c : Nat) (L : List Pw) (hn : L.length = n) (h : Ps U S a L) (hl : n ≤ 1000000) (ty : TypeId) :
    ∃ a' c' w', (Builtin.append_ #[25, 25] ty #[.slice (some ⟨p, 0, none⟩) 0 0, .slice a n c]).run Tryd.prog U = .ok (.slice a' n c') w' ∧ PO w' (fun b => S b ∨ b = p ∨ b = U.heap.size) (.slice a' n c') L ∧ Mods (fun b => b = p) U w' ∧ ∀ g, (Value.slice a' n c').ownBlock = some g → g = p ∨ g = U.heap.size := by
  obtain ⟨i0, hi, hz0, hz1, hz2⟩ := infoPut
  have h0 : U.ownsRow 0 29 2 (.slice (some ⟨p, 0, none⟩) 0 0) 0 [] := ⟨rfl, .inr ⟨p, 0, #[], rfl, Nat.zero_le _, hp, by simp, by simp [maxLen], by simp, by simp⟩⟩
  rcases Nat.eq_zero_or_pos n with rfl | hpos
  · obtain rfl : L = [] := List.eq_nil_of_length_eq_zero hn
    have hs : Src Tryd.prog i0.size 25 (.slice a 0 c) 0 [] U := by
      cases a with
      | none => exact Src.ofNil U Tryd.underlying25 c
      | some ad => exact Src.ofSlice U Tryd.underlying25 ad 0 c [] (by simp) (fun j u hj => by simp at hj) (fun u hu => by simp at hu)
    refine ⟨_, _, U, run_append_nothing U 25 25 ty 29 i0 Tryd.underlying25 hi _ 0 0 (Nat.le_refl _) _ hs, ⟨h0, fun g hg => ?_, fun q hq => by simp at hq⟩, Mods.refl _ _, fun g hg => ?_⟩
    · simp [Value.ownBlock] at hg
      exact .inr (.inl hg.symm)
    · simp [Value.ownBlock] at hg
      exact .inl hg.symm
  · obtain ⟨b, off, cur, rfl, hsb, hh, hcur⟩ := h.2 (by omega)
    obtain ⟨v', w', hr, k1, k2, _, k4⟩ := run_append_own_at (P := Tryd.prog) (w := U) 0 25 ty 29 i0 _ 2 32 Tryd.underlying25 hi hz0 hz1 hz2 rfl (by decide) _ 0 [] h0 ⟨b, off, none⟩ n c (cellsP L) (by rw [cellsP_len, hn]) h.cells (cellsP_one _) (by unfold maxLen; omega) (by omega) (Nat.zero_le _)
    rw [Nat.zero_add, List.nil_append] at k1
    obtain ⟨a', c', rfl⟩ := owns_slice k1
    have hm : Mods (fun x => x = p) U w' := by
      have := Mods.of_grown k2
      refine ⟨this.os, this.tape, this.output, this.size, fun x hx hne => this.block x hx (fun e => hne ?_)⟩
      simpa [Value.ownBlock] using e.symm
    refine ⟨a', c', w', hr, ⟨by rw [hn]; exact k1, fun g hg => ?_, fun q hq => ?_⟩, hm, fun g hg => ?_⟩
    · rcases k4 with e | e
      · rw [e] at hg; simp [Value.ownBlock] at hg; exact .inr (.inl hg.symm)
      · rw [e] at hg; simp at hg; exact .inr (.inr hg.symm)
    · refine ⟨((((h.1 q hq).1.off hp (by decide)).keep (fun x hx hl => hm.block x hl hx.2))).weak (fun x hx _ => .inl hx.1), (h.1 q hq).2⟩
    · rcases k4 with e | e
      · rw [e] at hg; simp [Value.ownBlock] at hg; exact .inl hg.symm
      · rw [e] at hg; simp at hg; exact .inr hg.symm
/-- What stands at the end of it. -/
def Two (W w' : World) (a : Option Addr) (n c : Nat) (L : List Pt) : Prop := ∃ S M, Ps w' S a M ∧ M.map Pw.pt = L ∧ M.length = n ∧ Below W.heap.size W w'
section
variable {W : World} {S : Nat → Prop} {a a5 : Option Addr} {n c c5 d : Nat} {L : List Pw} {B : Int} {D : List Int}
/-- The second one, where what is put lies in a block of its own. -/
theorem two_push {U : World} {v : Value} (hb : Below W.heap.size W U) (h : PO U (fun b => S b ∨ W.heap.size ≤ b) v L) (hv : ∀ g, v.ownBlock = some g → W.heap.size ≤ g) (hy : By W S a5 D) (hd : D.length = d) (hdc : d ≤ c5) (q : Nat) (hq : U.heap[q]? = some (.cells #[.int .i64 B, .slice a5 d c5] 29 (0, 0))) (hl : L.length ≤ 1000000) (ty : TypeId) :
    ∃ a' c' w', (Builtin.append_ #[25, 25] ty #[v, .slice (some ⟨q, 0, none⟩) 1 1]).run Tryd.prog U = .ok (.slice a' (L.length + 1) c') w' ∧ Two W w' a' (L.length + 1) c' (L.map Pw.pt ++ [⟨B, D⟩]) := by
  subst hd
  obtain ⟨a', n', c', w', hap, rfl, hpo, hm, _⟩ := h.push ⟨B, a5, c5, D⟩ ((hy.later hb).weak (fun b hs _ => .inl hs)) hdc q 0 (cell_of hq rfl) (cell_of hq rfl) 1 hl ty
  obtain ⟨a2, c2, e2, _, hps⟩ := hpo.ps
  rw [List.length_append] at e2
  simp only [Value.slice.injEq, List.length_cons, List.length_nil] at e2
  obtain ⟨rfl, _, rfl⟩ := e2
  exact ⟨a', c', w', hap, _, _, hps, by simp [Pw.pt], by simp, hm.to_below hb hb.size hv⟩
theorem two_A (h : Ps W S a L) (hn : L.length = n) (hy : By W S a5 D) (hd : D.length = d) (hdc : d ≤ c5) (hl : n ≤ 100000) (ty ty' : TypeId) :
    ∃ a1 c1 w1 a2 c2 w2, (Builtin.append_ #[25, 25] ty #[.slice (some ⟨W.heap.size, 0, none⟩) 0 0, .slice a n c]).run Tryd.prog (W.alloc (.cells #[] 29)).drew = .ok (.slice a1 n c1) w1 ∧
      (Builtin.append_ #[25, 25] ty' #[.slice a1 n c1, .slice (some ⟨w1.heap.size, 0, none⟩) 1 1]).run Tryd.prog (w1.alloc (.cells #[.int .i64 B, .slice a5 d c5] 29)) = .ok (.slice a2 (n + 1) c2) w2 ∧ Below W.heap.size W w1 ∧ Two W w2 a2 (n + 1) c2 (L.map Pw.pt ++ [⟨B, D⟩]) := by
  have hb1 : Below W.heap.size W (W.alloc (.cells #[] 29)).drew := ((Below.refl _ _).alloc (Nat.le_refl _) _).drew
  obtain ⟨a1, c1, w1, hap, hpo, hm, hob⟩ := twinP (W.alloc (.cells #[] 29)).drew S W.heap.size (alloc_new W _) a n c L hn (h.later hb1) (by omega) ty
  have hbw : Below W.heap.size W w1 := hm.to_below hb1 hb1.size (fun b hb => by rw [hb]; exact Nat.le_refl _)
  have hb2 : Below w1.heap.size w1 (w1.alloc (.cells #[.int .i64 B, .slice a5 d c5] 29)) := (Below.refl _ _).alloc (Nat.le_refl _) _
  have hpo' := hpo.weak (S' := fun b => S b ∨ W.heap.size ≤ b) (fun b hb _ => by
    rcases hb with h1 | h1 | h1
    · exact .inl h1
    · exact .inr (by rw [h1]; exact Nat.le_refl _)
    · exact .inr (by rw [h1]; exact hb1.size))
  have hv : ∀ g, (Value.slice a1 n c1).ownBlock = some g → W.heap.size ≤ g := fun g hg => by
    rcases hob g hg with e | e
    · rw [e]; exact Nat.le_refl _
    · rw [e]; exact hb1.size
  obtain ⟨a2, c2, w2, hap2, htw⟩ := two_push (W := W) (B := B) (hbw.trans (hb2.mono hbw.size)) (hpo'.later hb2) hv hy hd hdc w1.heap.size (alloc_new w1 _) (by omega) ty'
  rw [hn] at hap2 htw
  exact ⟨a1, c1, w1, a2, c2, w2, hap, hap2, hbw, htw⟩
theorem two_BC (U : World) (hb1 : Below W.heap.size W U) (p q : Nat) (hp : U.heap[p]? = some (.cells #[] 29 (0, 0))) (hq : U.heap[q]? = some (.cells #[.int .i64 B, .slice a5 d c5] 29 (0, 0))) (hpW : W.heap.size ≤ p) (hpq : q ≠ p) (h : Ps W S a L) (hn : L.length = n) (hy : By W S a5 D) (hd : D.length = d) (hdc : d ≤ c5) (hl : n ≤ 100000) (ty ty' : TypeId) :
    ∃ a1 c1 w1 a2 c2 w2, (Builtin.append_ #[25, 25] ty #[.slice (some ⟨p, 0, none⟩) 0 0, .slice a n c]).run Tryd.prog U = .ok (.slice a1 n c1) w1 ∧
      (Builtin.append_ #[25, 25] ty' #[.slice a1 n c1, .slice (some ⟨q, 0, none⟩) 1 1]).run Tryd.prog w1 = .ok (.slice a2 (n + 1) c2) w2 ∧ Two W w2 a2 (n + 1) c2 (L.map Pw.pt ++ [⟨B, D⟩]) := by
  obtain ⟨a1, c1, w1, hap, hpo, hm, hob⟩ := twinP U S p hp a n c L hn (h.later hb1) (by omega) ty
  have hbw : Below W.heap.size W w1 := hm.to_below hb1 hb1.size (fun b hb => by rw [hb]; exact hpW)
  have hpo' := hpo.weak (S' := fun b => S b ∨ W.heap.size ≤ b) (fun b hb _ => by
    rcases hb with h1 | h1 | h1
    · exact .inl h1
    · exact .inr (by rw [h1]; exact hpW)
    · exact .inr (by rw [h1]; exact hb1.size))
  have hv : ∀ g, (Value.slice a1 n c1).ownBlock = some g → W.heap.size ≤ g := fun g hg => by
    rcases hob g hg with e | e
    · rw [e]; exact hpW
    · rw [e]; exact hb1.size
  have hq1 : w1.heap[q]? = some (.cells #[.int .i64 B, .slice a5 d c5] 29 (0, 0)) := (hm.block q (Array.getElem?_eq_some_iff.1 hq).1 hpq).trans hq
  obtain ⟨a2, c2, w2, hap2, htw⟩ := two_push (W := W) (B := B) hbw hpo' hv hy hd hdc q hq1 (by omega) ty'
  rw [hn] at hap2 htw
  exact ⟨a1, c1, w1, a2, c2, w2, hap, hap2, htw⟩
theorem two_B (h : Ps W S a L) (hn : L.length = n) (hy : By W S a5 D) (hd : D.length = d) (hdc : d ≤ c5) (hl : n ≤ 100000) (ty ty' : TypeId) :
    ∃ a1 c1 w1 a2 c2 w2, (Builtin.append_ #[25, 25] ty #[.slice (some ⟨W.heap.size, 0, none⟩) 0 0, .slice a n c]).run Tryd.prog ((W.alloc (.cells #[] 29)).alloc (.cells #[.int .i64 B, .slice a5 d c5] 29)).drew = .ok (.slice a1 n c1) w1 ∧
      (Builtin.append_ #[25, 25] ty' #[.slice a1 n c1, .slice (some ⟨W.heap.size + 1, 0, none⟩) 1 1]).run Tryd.prog w1 = .ok (.slice a2 (n + 1) c2) w2 ∧ Two W w2 a2 (n + 1) c2 (L.map Pw.pt ++ [⟨B, D⟩]) := by
  have hs : (W.alloc (.cells #[] 29)).heap.size = W.heap.size + 1 := by simp
  have hb0 : Below W.heap.size W (W.alloc (.cells #[] 29)) := (Below.refl _ _).alloc (Nat.le_refl _) _
  have h2 : ((W.alloc (.cells #[] 29)).alloc (.cells #[.int .i64 B, .slice a5 d c5] 29)).heap[W.heap.size + 1]? = some (.cells #[.int .i64 B, .slice a5 d c5] 29 (0, 0)) := by rw [← hs]; exact alloc_new _ _
  have hbx : Below (W.alloc (.cells #[] 29)).heap.size (W.alloc (.cells #[] 29)) ((W.alloc (.cells #[] 29)).alloc (.cells #[.int .i64 B, .slice a5 d c5] 29)) := (Below.refl _ _).alloc (Nat.le_refl _) _
  have h1 : ((W.alloc (.cells #[] 29)).alloc (.cells #[.int .i64 B, .slice a5 d c5] 29)).heap[W.heap.size]? = some (.cells #[] 29 (0, 0)) := (hbx.block _ (by rw [hs]; omega)).trans (alloc_new W _)
  exact two_BC _ ((hb0.trans (hbx.mono hb0.size)).drew) W.heap.size (W.heap.size + 1) h1 h2 (Nat.le_refl _) (by omega) h hn hy hd hdc hl ty ty'
theorem two_C (h : Ps W S a L) (hn : L.length = n) (hy : By W S a5 D) (hd : D.length = d) (hdc : d ≤ c5) (hl : n ≤ 100000) (ty ty' : TypeId) :
    ∃ a1 c1 w1 a2 c2 w2, (Builtin.append_ #[25, 25] ty #[.slice (some ⟨W.heap.size + 1, 0, none⟩) 0 0, .slice a n c]).run Tryd.prog ((W.alloc (.cells #[.int .i64 B, .slice a5 d c5] 29)).alloc (.cells #[] 29)).drew = .ok (.slice a1 n c1) w1 ∧
      (Builtin.append_ #[25, 25] ty' #[.slice a1 n c1, .slice (some ⟨W.heap.size, 0, none⟩) 1 1]).run Tryd.prog w1 = .ok (.slice a2 (n + 1) c2) w2 ∧ Two W w2 a2 (n + 1) c2 (L.map Pw.pt ++ [⟨B, D⟩]) := by
  have hs : (W.alloc (.cells #[.int .i64 B, .slice a5 d c5] 29)).heap.size = W.heap.size + 1 := by simp
  have hb0 : Below W.heap.size W (W.alloc (.cells #[.int .i64 B, .slice a5 d c5] 29)) := (Below.refl _ _).alloc (Nat.le_refl _) _
  have h1 : ((W.alloc (.cells #[.int .i64 B, .slice a5 d c5] 29)).alloc (.cells #[] 29)).heap[W.heap.size + 1]? = some (.cells #[] 29 (0, 0)) := by rw [← hs]; exact alloc_new _ _
  have hbx : Below (W.alloc (.cells #[.int .i64 B, .slice a5 d c5] 29)).heap.size (W.alloc (.cells #[.int .i64 B, .slice a5 d c5] 29)) ((W.alloc (.cells #[.int .i64 B, .slice a5 d c5] 29)).alloc (.cells #[] 29)) := (Below.refl _ _).alloc (Nat.le_refl _) _
  have h2 : ((W.alloc (.cells #[.int .i64 B, .slice a5 d c5] 29)).alloc (.cells #[] 29)).heap[W.heap.size]? = some (.cells #[.int .i64 B, .slice a5 d c5] 29 (0, 0)) := (hbx.block _ (by rw [hs]; omega)).trans (alloc_new W _)
  exact two_BC _ ((hb0.trans (hbx.mono hb0.size)).drew) (W.heap.size + 1) W.heap.size h1 h2 (by omega) (by omega) h hn hy hd hdc hl ty ty'
end
theorem Two.log {W w' : World} {a : Option Addr} {n c : Nat} {L : List Pt} (h : Two W w' a n c L) (hl : n ≤ 100000) :
    Calls Tryd.prog 14 #[.slice a n c] w' fun e w2 => ∃ g, e = .returned (.slice (some ⟨g, 0, none⟩) 33792 33792) ∧ (∃ f : Nat → Int, (∀ i, IsB (f i)) ∧ w2.rowIs g 5 33792 (fun i => .int .u8 (f i)) ∧ W.heap.size ≤ g) ∧ Below W.heap.size W w2 := by
  obtain ⟨S, M, h1, h2, h3, h4⟩ := h
  have := log_row w' S a c M h1 (by omega)
  rw [h2, h3] at this
  refine this.mono ?_
  rintro e w2 ⟨g, rfl, ⟨k1, k2, k3⟩, k4⟩
  refine ⟨g, rfl, ⟨_, fun i => ?_, k1, Nat.le_trans h4.size k3⟩, h4.trans (k4.mono h4.size)⟩
  by_cases hi : i < (logL L).length
  · have : (logL L).getD i 0 = (logL L)[i] := by simp [List.getD, hi]
    rw [this]; exact k2 _ (List.getElem_mem hi)
  · rw [getD_out _ i (by omega)]; unfold IsB; omega
end Go.Proofs.YtoifeioijoancaaDoor
