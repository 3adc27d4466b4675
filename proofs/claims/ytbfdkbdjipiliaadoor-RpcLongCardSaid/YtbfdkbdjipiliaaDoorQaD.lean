/- Bytes as rows of one's own: copied, cloned, set. -/
import Derived.Test.YtbfdkbdjipiliaaDoorPaB
import Derived.Test.YtbfdkbdjipiliaaDoorEcE
namespace Go.Proofs.YtbfdkbdjipiliaaDoor
open Go.RowKit Go.Maps
set_option linter.unusedVariables false

/-- A copy of bytes, as a row of one's own. -/
theorem twinBR (W : World) (a : Option Addr) (n c : Nat) (d : List Int) (hn : d.length = n) (hl : n ≤ 900000) (h : Bytes W a d) (ty : TypeId) :
    ∃ a2 c2 w2, (Builtin.append_ #[27, 27] ty #[.slice (some ⟨W.heap.size, 0, none⟩) 0 0, .slice a n c]).run Tryd.prog (W.alloc (.cells #[] 5)) = .ok (.slice a2 n c2) w2 ∧ RW w2 5 1 (.slice a2 n c2) n (u8s d) ∧ n ≤ c2 ∧ (∀ b, blkV (.slice a2 n c2) = some b → W.heap.size ≤ b) ∧ Below W.heap.size W w2 := by
  obtain ⟨i0, hi, hz0, hz1, hz2⟩ := info5b
  have hb1 : Below W.heap.size W (W.alloc (.cells #[] 5)) := (Below.refl _ _).alloc (Nat.le_refl _) _
  by_cases hp : 0 < n
  · obtain ⟨b0, o0, rfl, hcur⟩ := h.open_ (by omega)
    obtain ⟨v', w', hr, ho, hgr, _, hob⟩ := run_append_own_at (P := Tryd.prog) (W.alloc (.cells #[] 5)) W.heap.size 27 ty 5 i0 _ 1 1 Tryd.underlying27 hi hz0 hz1 hz2 rfl (by omega) (.slice (some ⟨W.heap.size, 0, none⟩) 0 0) 0 [] ⟨by simp, .inr ⟨W.heap.size, 0, #[], rfl, Nat.le_refl _, alloc_new W _, by simp, by simp, by simp, by simp⟩⟩ ⟨b0, o0, none⟩ n c (u8s d) (by simp [hn]) (fun j u hj => by
      have hj2 : j < d.length := by have := (List.getElem?_eq_some_iff.1 hj).1; simpa using this
      rw [u8s_get hj2] at hj
      rw [add_addr]
      refine cell_later hb1 ?_
      rw [hcur j hj2]
      simpa using hj) (by intro u hu; simp at hu; obtain ⟨x, _, rfl⟩ := hu; rfl) (by unfold maxLen; omega) (by first | omega | (unfold maxLen; omega)) (by simp)
    rw [Nat.zero_add, List.nil_append] at ho
    obtain ⟨a2, c2, rfl⟩ := owns_slice ho
    obtain ⟨g', c', e, h1, _, hb, _⟩ := owns_cells ho hp
    simp only [Value.slice.injEq, true_and] at e
    obtain ⟨rfl, rfl⟩ := e
    refine ⟨_, _, w', hr, RW.of_owns ho, h1, fun b hb2 => ?_, ?_⟩
    · simp only [blkV, Option.some.injEq] at hb2
      omega
    · exact ⟨hgr.os.trans hb1.os, hgr.tape.trans hb1.tape, hgr.output.trans hb1.output, Nat.le_trans hb1.size hgr.size, fun b hb => (hgr.block b (Nat.lt_of_lt_of_le hb hb1.size) (by simp [Value.ownBlock]; omega)).trans (hb1.block b hb)⟩
  · obtain rfl : n = 0 := by omega
    obtain rfl : d = [] := List.eq_nil_of_length_eq_zero hn
    have hs : Src Tryd.prog i0.size 27 (.slice a 0 c) 0 [] (W.alloc (.cells #[] 5)) := by
      cases a with
      | none => exact Src.ofNil _ Tryd.underlying27 c
      | some ad => exact Src.ofSlice _ Tryd.underlying27 ad 0 c [] (by simp) (fun j u hj => by simp at hj) (fun u hu => by simp at hu)
    exact ⟨some ⟨W.heap.size, 0, none⟩, 0, _, run_append_nothing _ 27 27 ty 5 i0 Tryd.underlying27 hi _ 0 0 (Nat.le_refl _) _ hs, ⟨by simp, .inr ⟨W.heap.size, 0, 0, #[], rfl, alloc_new W _, by simp, by simp, by simp, fun j hj => by omega⟩⟩, Nat.le_refl _, fun b hb => by simp only [blkV, Option.some.injEq] at hb; omega, hb1⟩
theorem RW.bytes {w : World} {a : Option Addr} {n c : Nat} {d : List Int} (h : RW w 5 1 (.slice a n c) n (u8s d)) (hd : ∀ x ∈ d, IsB x) : Bytes w a d := fun i hi => by
  have hl : d.length = n := by have := h.1; simpa using this
  obtain ⟨b, off, cap, e, _, _, hc, _⟩ := h.at_ (by omega)
  simp only [Value.slice.injEq] at e
  exact ⟨b, off, e.1, hc i _ (u8s_get hi), mem_getD d IsB hd i hi⟩
/-- One byte of a row is set. -/
theorem RW.poke {w : World} {b off n c : Nat} {d : List Int} (h : RW w 5 1 (.slice (some ⟨b, off, none⟩) n c) n (u8s d)) {j : Nat} (hj : j < n) (y : Int) :
    w.cell? ⟨b, off + j, none⟩ = some (.int .u8 (d.getD j 0)) ∧ w.frozen? ⟨b, off + j, none⟩ = false ∧ RW (w.setCell ⟨b, off + j, none⟩ (.int .u8 y)) 5 1 (.slice (some ⟨b, off, none⟩) n c) n (u8s (d.set j y)) ∧ Mods (fun x => x = b) w (w.setCell ⟨b, off + j, none⟩ (.int .u8 y)) := by
  have hl : d.length = n := by have := h.1; simpa using this
  rcases h.2 with ⟨e, _⟩ | ⟨b', off', cap', cur, e, hh, h1, hm, h2, h3⟩
  · simp at e
  · simp only [Value.slice.injEq, Option.some.injEq, Addr.mk.injEq, and_true, true_and] at e
    obtain ⟨⟨rfl, rfl⟩, rfl⟩ := e
    refine ⟨cell_of hh (by rw [h3 j (by omega), u8s_get (by omega)]), froz_of hh _, ⟨by simp [hl], .inr ⟨b, off, c, _, rfl, setc hh (off + j) _, h1, hm, by simpa using h2, fun i hi => ?_⟩⟩, (Mods.refl (fun x => x = b) w).setCell b (off + j) _ rfl⟩
    rw [Array.getElem?_setIfInBounds]
    by_cases e : i = j
    · subst e
      rw [if_pos rfl, if_pos (by omega)]
      simp [hl, hj]
    · rw [if_neg (by omega), h3 i hi]
      simp only [u8s, List.getElem?_map, List.getElem?_set]
      rw [if_neg (fun e2 => e e2.symm)]
set_option maxRecDepth 100000 in
set_option maxHeartbeats 1000000 in
/-- bytes.Clone, also of none: a row of one's own. -/
theorem CloneB_any (w : World) (a : Option Addr) (n c : Nat) (l : List Int) (hn : l.length = n) (hl : n ≤ 900000) (hb : Bytes w a l) :
    Calls Tryd.prog 25 #[.slice a n c] w fun e w' => ∃ a2 c2, e = .returned (.slice a2 n c2) ∧ By w' (New w) a2 l ∧ (n ≤ c2 ∧ RW w' 5 1 (.slice a2 n c2) n (u8s l) ∧ ∀ b, blkV (.slice a2 n c2) = some b → w.heap.size ≤ b) ∧ Below w.heap.size w w' := by
  have qT : ∀ (w : World) (a : Option Addr) (n c n' c' : Nat), (binOp .eql 27 (.slice a n c) (.slice none n' c')).run Tryd.prog w = .ok (.bool a.isNone) w := fun w a n c n' c' => Lib.run_eql_slice_nil w _ _ a n c n' c' Tryd.underlying27
  cases a with
  | none =>
    have hl0 : l = [] := by
      cases l with
      | nil => rfl
      | cons x r =>
        obtain ⟨b, off, e, _⟩ := hb 0 (by simp)
        cases e
    subst hl0
    obtain rfl : n = 0 := by simpa using hn.symm
    clear hb hn
    go_enter Tryd.func25, Tryd.ntmps25
    go_wp2
    go_ret
    exact ⟨none, 0, rfl, By.nil _ _ _, ⟨Nat.le_refl _, RW.nil _ _ _, fun b hb => by simp [blkV] at hb⟩, Below.refl _ _⟩
  | some ad =>
    obtain ⟨a2, c2, w2, hap, hr, hc, hnw, hb2⟩ := twinBR w (some ad) n c l hn hl hb 27
    have HR := hid hr
    have HNW := hid hnw
    have HB2 := hid hb2
    have HIB := hid hb.isB
    clear hr hnw hb2 hb hn
    go_enter Tryd.func25, Tryd.ntmps25
    go_wp2_with (at_builtin; refine wpList_append_run rfl _ _ 27 rfl rfl rfl hap ?_)
    go_ret
    refine ⟨a2, c2, rfl, ⟨HIB.out, fun hp => ?_⟩, ⟨hc, HR.out, HNW.out⟩, HB2.out⟩
    have hl : l.length = n := by have := HR.out.1; simpa using this
    rcases HR.out.2 with ⟨_, h0⟩ | ⟨b, off, cap, cur, e, hh, h1, _, _, h3⟩
    · omega
    · simp only [Value.slice.injEq, true_and] at e
      obtain ⟨rfl, rfl⟩ := e
      exact ⟨b, off, cur, _, rfl, HNW.out b rfl, hh, fun i hi => by rw [h3 i (by omega), u8s_get hi]⟩
end Go.Proofs.YtbfdkbdjipiliaaDoor
