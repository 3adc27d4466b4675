/- VolViews' state: a view over a base, and the law's own row. -/
import Derived.Test.YtoplbmbeadpilaaVkL
namespace Go.Proofs.Ytoplbmbeadpilaa
open Go.RowKit Go.Maps
set_option linter.unusedVariables false

/-- A view over a base, and the row of what was put by which call. -/
structure Vs (w0 wr : World) (pv q gP n : Nat) (S T : Nat → Prop) (P : Int → Option (List Int)) (bc : Nat → List Int) (G : Nat → Int) : Prop where
  v : Vw wr pv S 200 16 (baseV q) n P
  sb : ∀ g, S g → g < wr.heap.size
  b : Bs wr q T 200 bc (fun _ => false)
  tb : ∀ g, T g → g < wr.heap.size
  st : ∀ g, T g → ¬ S g
  r : IntR wr gP 200 G
  sr : ¬ S gP
  tr : ¬ T gP
  s0 : ∀ g, S g → w0.heap.size ≤ g
  r0 : w0.heap.size ≤ gP
  bel : Below w0.heap.size w0 wr
variable {w0 wr w' : World} {pv q gP n n' : Nat} {S S' T : Nat → Prop} {P P' : Int → Option (List Int)} {bc : Nat → List Int} {G G' : Nat → Int}
theorem Vs.later (t : Vs w0 wr pv q gP n S T P bc G) (hb : Below wr.heap.size wr w') : Vs w0 w' pv q gP n S T P bc G :=
  ⟨t.v.later hb, fun g hg => Nat.lt_of_lt_of_le (t.sb g hg) hb.size, t.b.later hb, fun g hg => Nat.lt_of_lt_of_le (t.tb g hg) hb.size, t.st, t.r.keep (hb.block _ t.r.lt), t.sr, t.tr, t.s0, t.r0, t.bel.trans (hb.mono t.bel.size)⟩
theorem Vs.call (t : Vs w0 wr pv q gP n S T P bc G) (hk : Kp S wr S' w') (hv : Vw w' pv S' 200 16 (baseV q) n' P') (hs : ∀ g, S' g → g < w'.heap.size) : Vs w0 w' pv q gP n' S' T P' bc G := by
  obtain ⟨h1, h2⟩ := hk.below0 t.bel t.s0
  exact ⟨hv, hs, t.b.keep (fun g hg hl => hk.block hl (t.st g hg)), fun g hg => Nat.lt_of_lt_of_le (t.tb g hg) hk.2.size, fun g hg => hk.off (t.tb g hg) (t.st g hg), t.r.keep (hk.block t.r.lt t.sr), hk.off t.r.lt t.sr, t.tr, h2, t.r0, h1⟩
theorem Vs.set (t : Vs w0 wr pv q gP n S T P bc G) {k : Nat} (hk : k < 200) (x : Int) (e : ∀ j, j < 200 → G' j = if j = k then x else G j) : Vs w0 (wr.setCell ⟨gP, k, none⟩ (n64 x)) pv q gP n S T P bc G' := by
  have hm : Mods (fun g => g = gP) wr (wr.setCell ⟨gP, k, none⟩ (n64 x)) := (Mods.refl (fun g => g = gP) wr).setCell gP k _ rfl
  exact ⟨t.v.keep (fun g hg hl => hm.block g hl (fun e => t.sr (by rw [← e]; exact hg))), fun g hg => Nat.lt_of_lt_of_le (t.sb g hg) hm.size, t.b.keep (fun g hg hl => hm.block g hl (fun e => t.tr (by rw [← e]; exact hg))), fun g hg => Nat.lt_of_lt_of_le (t.tb g hg) hm.size, t.st, t.r.set hk x e, t.sr, t.tr, t.s0, t.r0, t.bel.setCell t.r0 _⟩
/-- What else was changed: a block that is nobody's here. -/
theorem Vs.other (t : Vs w0 wr pv q gP n S T P bc G) {g : Nat} (hS : ¬ S g) (hT : ¬ T g) (hP : g ≠ gP) (h0 : w0.heap.size ≤ g) (k : Nat) (x : Value) : Vs w0 (wr.setCell ⟨g, k, none⟩ x) pv q gP n S T P bc G := by
  have hm : Mods (fun j => j = g) wr (wr.setCell ⟨g, k, none⟩ x) := (Mods.refl (fun j => j = g) wr).setCell g k _ rfl
  exact ⟨t.v.keep (fun j hj hl => hm.block j hl (fun e => hS (by rw [← e]; exact hj))), fun j hj => Nat.lt_of_lt_of_le (t.sb j hj) hm.size, t.b.keep (fun j hj hl => hm.block j hl (fun e => hT (by rw [← e]; exact hj))), fun j hj => Nat.lt_of_lt_of_le (t.tb j hj) hm.size, t.st, t.r.keep (hm.block _ t.r.lt (fun e => hP e.symm)), t.sr, t.tr, t.s0, t.r0, t.bel.setCell h0 _⟩
/-- The bytes that a call puts. -/
def pdat (x y : Int) : List Int := (zeros512.set 9 x).set 10 y
theorem pdat_len (x y : Int) : (pdat x y).length = 512 := by unfold pdat; rw [List.length_set, List.length_set, zeros_len]
theorem pdat_isB {x y : Int} (hx : IsB x) (hy : IsB y) : ∀ z ∈ pdat x y, IsB z := fun z hz => by
  rcases List.mem_or_eq_of_mem_set hz with h | h
  · rcases List.mem_or_eq_of_mem_set h with h | h
    · exact zeros_isB z h
    · rw [h]; exact hx
  · rw [h]; exact hy
theorem pdat_at (x y : Int) (i : Nat) (hi : i < 512) : (pdat x y).getD i 0 = if i = 10 then y else if i = 9 then x else 0 := by
  unfold pdat
  rw [List.getD_eq_getElem?_getD, List.getElem?_set]
  by_cases e : i = 10
  · subst e
    rw [if_pos rfl, if_pos (by rw [List.length_set, zeros_len]; decide), if_pos rfl]; rfl
  · rw [if_neg (fun h => e h.symm), if_neg e, List.getElem?_set]
    by_cases e2 : i = 9
    · subst e2
      rw [if_pos rfl, if_pos (by rw [zeros_len]; decide), if_pos rfl]; rfl
    · rw [if_neg (fun h => e2 h.symm), if_neg e2]
      unfold zeros512
      rw [List.getElem?_replicate, if_pos hi]; rfl
/-- A made row of bytes, two of them written. -/
theorem pdat_by (w : World) {x y : Int} (hx : IsB x) (hy : IsB y) : By (((w.alloc (.cells (madeCells #[.int .u8 0] 512) 5)).setCell ⟨w.heap.size, 9, none⟩ (.int .u8 x)).setCell ⟨w.heap.size, 10, none⟩ (.int .u8 y)) (fun g => g = w.heap.size) (some ⟨w.heap.size, 0, none⟩) (pdat x y) := by
  refine ⟨pdat_isB hx hy, fun _ => ⟨w.heap.size, 0, _, _, rfl, rfl, setc (setc (alloc_new w _) 9 _) 10 _, fun i hi => ?_⟩⟩
  rw [pdat_len] at hi
  rw [pdat_at x y i hi, Nat.zero_add]
  have hs : (madeCells #[.int .u8 0] 512).size = 512 := by rw [size_madeCells]
  by_cases e : i = 10
  · subst e
    rw [Array.getElem?_setIfInBounds_self_of_lt (by rw [Array.size_setIfInBounds, hs]; decide), if_pos rfl]
  · rw [Array.getElem?_setIfInBounds_ne (fun h => e h.symm), if_neg e]
    by_cases e2 : i = 9
    · subst e2
      rw [Array.getElem?_setIfInBounds_self_of_lt (by rw [hs]; decide), if_pos rfl]
    · rw [Array.getElem?_setIfInBounds_ne (fun h => e2 h.symm), if_neg e2, ← Array.getElem?_toList, toList_madeCells_one, List.getElem?_replicate, if_pos hi]
/-- What was put by the first i calls. -/
def Pd (l : List Bk) (i : Nat) (P : Int → Option (List Int)) (G : Nat → Int) : Prop :=
  (∀ n : Nat, n < 200 → (G n = 0 ∧ P (n : Int) = none) ∨ ∃ j : Nat, j < i ∧ G n = (j : Int) + 1 ∧ P (n : Int) = some (pdat (l.getD j default).b j)) ∧ ∀ k, IsI k → ¬ (0 ≤ k ∧ k < 200) → P k = none
theorem Pd.nil (l : List Bk) : Pd l 0 (fun _ => none) (fun _ => 0) := ⟨fun n _ => .inl ⟨rfl, rfl⟩, fun _ _ _ => rfl⟩
theorem Pd.step {l : List Bk} {i : Nat} (h : Pd l i P G) (n : Nat) (hn : n < 200) (hG : ∀ j, j < 200 → G' j = if j = n then (i : Int) + 1 else G j) : Pd l (i + 1) (upd P (n : Int) (some (pdat (l.getD i default).b i))) G' := by
  refine ⟨fun m hm => ?_, fun k hk hk2 => ?_⟩
  · unfold upd
    rw [hG m hm]
    by_cases e : m = n
    · subst e
      rw [if_pos rfl, if_pos rfl]
      exact .inr ⟨i, by omega, rfl, rfl⟩
    · rw [if_neg e, if_neg (by omega)]
      rcases h.1 m hm with h1 | ⟨j, h1, h2, h3⟩
      · exact .inl h1
      · exact .inr ⟨j, by omega, h2, h3⟩
  · unfold upd
    rw [if_neg (by omega)]
    exact h.2 k hk hk2
theorem Pd.some_ {l : List Bk} {i : Nat} (h : Pd l i P G) (k : Nat) (hk : k < 200) : decide (G k ≠ 0) = (P (k : Int)).isSome := by
  rcases h.1 k hk with ⟨h1, h2⟩ | ⟨j, _, h1, h2⟩
  · rw [h1, h2]; rfl
  · rw [h2]; simp; omega
end Go.Proofs.Ytoplbmbeadpilaa
