/- The blocks of a log in which blocks were laid: plain mathematics. -/
import Derived.Test.YtoifeioijoancaaDoorWcD
namespace Go.Proofs.YtoifeioijoancaaDoor
open Go.RowKit Go.Maps
set_option linter.unusedVariables false

def z512 : List Int := List.replicate 512 0
theorem z512_len : z512.length = 512 := by unfold z512; rw [List.length_replicate]
theorem z512_get (i : Nat) : z512.getD i 0 = 0 := by
  unfold z512 List.getD
  rw [List.getElem?_replicate]
  split <;> rfl
def lastOn (d : List Int) (X : List Pt) (j : Nat) : List Int := X.foldl (fun d p => if p.blk = (j : Int) then p.dat else d) d
def lastAt (X : List Pt) (j : Nat) : List Int := lastOn z512 X j
theorem lastOn_app (d : List Int) (X Y : List Pt) (j : Nat) : lastOn d (X ++ Y) j = lastOn (lastOn d X j) Y j := by simp [lastOn]
theorem lastOn_cons (d : List Int) (p : Pt) (X : List Pt) (j : Nat) : lastOn d (p :: X) j = lastOn (if p.blk = (j : Int) then p.dat else d) X j := rfl
theorem lastOn_len : ∀ (X : List Pt) (d : List Int) (j : Nat), d.length = 512 → (∀ p ∈ X, p.dat.length = 512) → (lastOn d X j).length = 512
  | [], d, j, hd, _ => hd
  | p :: X, d, j, hd, hX => by
    rw [lastOn_cons]
    refine lastOn_len X _ j ?_ (fun q hq => hX q (by simp [hq]))
    split
    · exact hX p (by simp)
    · exact hd
theorem logF_last : ∀ (X : List Pt) (f : Nat → Int) (d : List Int) (j : Nat), j < 66 → (∀ p ∈ X, p.dat.length = 512) → (∀ i, i < 512 → f (512 * j + i) = d.getD i 0) → ∀ i, i < 512 → X.foldl layF f (512 * j + i) = (lastOn d X j).getD i 0
  | [], f, d, j, _, _, h, i, hi => h i hi
  | p :: X, f, d, j, hj, hX, h, i, hi => by
    rw [lastOn_cons, List.foldl_cons]
    refine logF_last X (layF f p) _ j hj (fun q hq => hX q (by simp [hq])) (fun i hi => ?_) i hi
    have hp := hX p (by simp)
    unfold layF layP
    rw [hp]
    simp only [Nat.min_self]
    by_cases e : p.blk = (j : Int)
    · rw [if_pos e, e, Int.toNat_natCast, if_pos (by omega), show 512 * j + i - 512 * j = i by omega]
    · rw [if_neg e, if_neg (by omega)]
      exact h i hi
theorem logL_block (X : List Pt) (hX : ∀ p ∈ X, p.dat.length = 512) (j : Nat) (hj : j < 66) : ((logL X).drop (512 * j)).take 512 = lastAt X j := by
  have hl : (lastAt X j).length = 512 := lastOn_len X z512 j z512_len hX
  apply List.ext_getElem
  · rw [List.length_take, List.length_drop, logL_len, hl]; omega
  · intro i h1 h2
    have hi : i < 512 := by rw [hl] at h2; exact h2
    have := logF_last X (fun _ => 0) z512 j hj hX (fun i hi => (z512_get i).symm) i hi
    have e1 : ((logL X).drop (512 * j)).take 512 = ((logL X).drop (512 * j)).take 512 := rfl
    rw [List.getElem_take, List.getElem_drop]
    simp only [logL, List.getElem_map, List.getElem_range]
    unfold logF
    rw [this]
    have h3 : i < (lastOn z512 X j).length := by rw [← hl] at hi; exact hi
    show (lastOn z512 X j).getD i 0 = (lastOn z512 X j)[i]
    simp [List.getD, h3]
theorem logL_head (X : List Pt) (hX : ∀ p ∈ X, p.dat.length = 512) : (logL X).take 512 = lastAt X 0 := by
  have := logL_block X hX 0 (by omega)
  simpa using this
theorem rows_last : ∀ (l : List Pt) (i : Nat) (d : List Int) (j : Nat), lastOn d (rowsFrom i l) j = if i ≤ j ∧ j < i + l.length then (l.getD (j - i) default).dat else d
  | [], i, d, j => by rw [if_neg (by simp)]; rfl
  | p :: l, i, d, j => by
    rw [rowsFrom, lastOn_cons, rows_last l]
    simp only [List.length_cons]
    by_cases e : (i : Int) = (j : Int)
    · have e' : i = j := by omega
      subst e'
      rw [if_neg (by omega), if_pos rfl, if_pos (by omega)]
      simp
    · rw [if_neg e]
      by_cases e2 : i + 1 ≤ j ∧ j < i + 1 + l.length
      · rw [if_pos e2, if_pos (by omega), show j - i = (j - (i + 1)) + 1 by omega]
        simp
      · rw [if_neg e2, if_neg (by omega)]
theorem rowsFrom_dat (l : List Pt) : ∀ (i : Nat) (p : Pt), p ∈ rowsFrom i l → ∃ q ∈ l, p.dat = q.dat := by
  induction l with
  | nil => intro i p hp; simp [rowsFrom] at hp
  | cons x l ih =>
    intro i p hp
    simp only [rowsFrom, List.mem_cons] at hp
    rcases hp with rfl | hp
    · exact ⟨x, by simp, rfl⟩
    · obtain ⟨q, hq, e⟩ := ih (i + 1) p hp
      exact ⟨q, by simp [hq], e⟩
theorem recL_len512 {seq : Int} {l : List Pt} (hg : Good l) : ∀ p ∈ recL seq l, p.dat.length = 512 := by
  intro p hp
  simp only [recL, List.mem_cons] at hp
  rcases hp with rfl | hp
  · exact headL_len _ _ hg.many
  · obtain ⟨q, hq, e⟩ := rowsFrom_dat l 1 p hp
    rw [e]
    exact (hg.ok q hq).2.2
theorem recL_last {seq : Int} {l : List Pt} (d : List Int) (j : Nat) : lastOn d (recL seq l) j = if j = 0 then headL seq l else if j < 1 + l.length then (l.getD (j - 1) default).dat else d := by
  unfold recL
  rw [lastOn_cons, rows_last]
  by_cases e : j = 0
  · subst e
    rw [if_neg (by omega), if_pos rfl]
    rfl
  · rw [if_neg e]
    by_cases e2 : j < 1 + l.length
    · rw [if_pos (by omega), if_pos e2]
    · rw [if_neg (by omega), if_neg e2, if_neg (by simp; omega)]
theorem end_len (seq : Int) (l : List Pt) : (endOf seq l).dat.length = 512 := endL_len _ _
theorem whole_len {seq : Int} {l : List Pt} (hg : Good l) : ∀ p ∈ recL seq l ++ [endOf seq l], p.dat.length = 512 := by
  intro p hp
  rcases List.mem_append.1 hp with h | h
  · exact recL_len512 hg p h
  · simp at h; rw [h]; exact end_len _ _
theorem whole_last {seq : Int} {l : List Pt} (d : List Int) (j : Nat) : lastOn d (recL seq l ++ [endOf seq l]) j = if j = 0 then headL seq l else if j < 1 + l.length then (l.getD (j - 1) default).dat else if j = 1 + l.length then endL seq (sumL seq l) else d := by
  rw [lastOn_app, recL_last, lastOn_cons]
  have e : (endOf seq l).blk = (l.length : Int) + 1 := rfl
  rw [e]
  by_cases h : j = 1 + l.length
  · rw [if_pos (by omega), if_neg (by omega), if_neg (by omega), if_pos h]
    rfl
  · rw [if_neg (by omega)]
    by_cases h2 : j = 0
    · rw [if_pos h2, if_pos h2]; rfl
    · rw [if_neg h2, if_neg h2]
      by_cases h3 : j < 1 + l.length
      · rw [if_pos h3, if_pos h3]; rfl
      · rw [if_neg h3, if_neg h3, if_neg h]; rfl
theorem stands_whole {seq : Int} {l : List Pt} (hg : Good l) : Stands (logL (recL seq l ++ [endOf seq l])) seq l ∧ ((logL (recL seq l ++ [endOf seq l])).drop (512 * (l.length + 1))).take 512 = endL seq (sumL seq l) := by
  have hm := hg.many
  refine ⟨⟨?_, fun i hi => ?_⟩, ?_⟩
  · rw [logL_head _ (whole_len hg)]; unfold lastAt; rw [whole_last, if_pos rfl]
  · rw [logL_block _ (whole_len hg) (i + 1) (by omega)]; unfold lastAt; rw [whole_last, if_neg (by omega), if_pos (by omega)]; rfl
  · rw [logL_block _ (whole_len hg) (l.length + 1) (by omega)]; unfold lastAt; rw [whole_last, if_neg (by omega), if_neg (by omega), if_pos (by omega)]
theorem stands_cut {seq : Int} {l : List Pt} (hg : Good l) : Stands (logL (recL seq l)) seq l ∧ ((logL (recL seq l)).drop (512 * (l.length + 1))).take 512 = z512 := by
  have hm := hg.many
  refine ⟨⟨?_, fun i hi => ?_⟩, ?_⟩
  · rw [logL_head _ (recL_len512 hg)]; unfold lastAt; rw [recL_last, if_pos rfl]
  · rw [logL_block _ (recL_len512 hg) (i + 1) (by omega)]; unfold lastAt; rw [recL_last, if_neg (by omega), if_pos (by omega)]; rfl
  · rw [logL_block _ (recL_len512 hg) (l.length + 1) (by omega)]; unfold lastAt; rw [recL_last, if_neg (by omega), if_neg (by omega)]
theorem endB_word (s x : Int) : (endB s x).take 8 = endW := by unfold endB; rw [List.append_assoc]; rfl
theorem foot_none {b : List Int} {t : List Int} (h : (b.drop (512 * (recN b + 1))).take 512 = t) (ht : t.take 8 ≠ endW) : ¬ RecOk b := fun hk => by
  have := congrArg (List.take 8) hk.foot
  rw [h, List.take_take, show min 8 20 = 8 from rfl, endB_word] at this
  exact ht this
end Go.Proofs.YtoifeioijoancaaDoor
