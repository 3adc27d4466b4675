/- The document's End. -/
import Derived.Test.YthgmghfegaemkaaQeB
import Derived.Test.YthgmghfegaemkaaQbF
namespace Go.Proofs.Ythgmghfegaemkaa
open Go.RowKit Go.Maps
set_option linter.unusedVariables false

def dEndPost (w : World) (q : Nat) (T : Nat → Prop) (n : Nat) (L : Tl) (k : Ky) (r : List Int) (e : Ending) (w' : World) : Prop :=
  ∃ T', e = .returned (.int .i64 (enC L k)) ∧ DbAt w' q T' n (enL L k r) ∧ Kp T w T' w'
/-- An entry is told its reply. -/
theorem toT_done {E : List De} {i : Nat} (hi : i < E.length) (hn : ((toT E).map (·.1)).Nodup) (r : List Int) (v : Value) : toT (E.set i (E[i].1, some r, v)) = doneT (toT E) E[i].1 r := by
  induction E generalizing i with
  | nil => simp at hi
  | cons e L ih =>
    simp only [toT, List.map_cons, List.nodup_cons] at hn
    cases i with
    | zero =>
      simp only [List.set_cons_zero, List.getElem_cons_zero]
      show (e.1, some r) :: toT L = (if e.1 = e.1 then (e.1, some r) else _) :: doneT (toT L) e.1 r
      rw [if_pos rfl]
      congr 1
      unfold doneT
      refine ((List.map_congr_left (f := fun f : Ky × Option (List Int) => if f.1 = e.1 then (e.1, some r) else f) (g := id) (fun f hf => if_neg (fun e2 => hn.1 ?_))).trans (List.map_id _)).symm
      rw [← e2]
      exact List.mem_map.2 ⟨f, hf, rfl⟩
    | succ i =>
      simp only [List.length_cons] at hi
      simp only [List.set_cons_succ, List.getElem_cons_succ]
      show (e.1, e.2.1) :: toT (L.set i (L[i].1, some r, v)) = (if e.1 = L[i].1 then _ else (e.1, e.2.1)) :: doneT (toT L) L[i].1 r
      rw [if_neg (fun e2 => hn.1 (by
        rw [e2]
        exact List.mem_map.2 ⟨(L[i].1, L[i].2.1), List.mem_map.2 ⟨L[i], List.getElem_mem _, rfl⟩, rfl⟩)), ih (by omega) hn.2]
theorem rowD_set (E : List De) {i : Nat} (hi : i < E.length) (r : List Int) (v : Value) (j : Nat) : (rowD (E.set i (E[i].1, some r, v)))[j]? = if j = i * 7 + 5 then some (.bool true) else if j = i * 7 + 6 then some v else (rowD E)[j]? := by
  induction E generalizing i j with
  | nil => simp at hi
  | cons e L ih =>
    have h1 : rowD (e :: L) = dC e ++ rowD L := rfl
    have h3 (e : De) : (dC e).length = 7 := rfl
    cases i with
    | zero =>
      simp only [List.set_cons_zero, List.getElem_cons_zero]
      have h2 : rowD ((e.1, some r, v) :: L) = dC (e.1, some r, v) ++ rowD L := rfl
      rw [h1, h2]
      by_cases hj : j < 7
      · rw [List.getElem?_append_left (by rw [h3]; exact hj), List.getElem?_append_left (by rw [h3]; exact hj)]
        rcases (show j = 0 ∨ j = 1 ∨ j = 2 ∨ j = 3 ∨ j = 4 ∨ j = 5 ∨ j = 6 by omega) with rfl | rfl | rfl | rfl | rfl | rfl | rfl <;> simp [dC]
      · rw [if_neg (by omega), if_neg (by omega), List.getElem?_append_right (by rw [h3]; omega), List.getElem?_append_right (by rw [h3]; omega), h3, h3]
    | succ i =>
      simp only [List.length_cons] at hi
      simp only [List.set_cons_succ, List.getElem_cons_succ]
      have h2 : rowD (e :: L.set i (L[i].1, some r, v)) = dC e ++ rowD (L.set i (L[i].1, some r, v)) := rfl
      rw [h1, h2]
      by_cases hj : j < 7
      · rw [List.getElem?_append_left (by rw [h3]; exact hj), List.getElem?_append_left (by rw [h3]; exact hj), if_neg (by omega), if_neg (by omega)]
      · rw [List.getElem?_append_right (by rw [h3]; omega), List.getElem?_append_right (by rw [h3]; omega), h3, ih (by omega)]
        by_cases e5 : j = (i + 1) * 7 + 5
        · rw [if_pos e5, if_pos (by omega)]
        · rw [if_neg e5, if_neg (by omega)]
          by_cases e6 : j = (i + 1) * 7 + 6
          · rw [if_pos e6, if_pos (by omega)]
          · rw [if_neg e6, if_neg (by omega)]
/-- The table told so. -/
theorem DbX.told {w w2 : World} {q : Nat} {T : Nat → Prop} {n : Nat} {E : List De} {b off m cap : Nat} (h : DbX w q T n E (.slice (some ⟨b, off, none⟩) m cap)) (hm : E.length = m) {i : Nat} (hi : i < m) {k : Ky} (hk : (E[i]'(by omega)).1 = k) {r : List Int} {rn : Nat} (hrn : r.length = rn) {a2 : Option Addr} {c2 : Nat}
    (hb : Below w.heap.size (w.setCell ⟨b, off + i * 7 + 5, none⟩ (.bool true)) w2) (hy : By w2 (New w) a2 r) :
    DbX (w2.setCell ⟨b, off + i * 7 + 6, none⟩ (.slice a2 rn c2)) q (fun x => T x ∨ (w.heap.size ≤ x ∧ x < w2.heap.size)) n (E.set i (k, some r, .slice a2 rn c2)) (.slice (some ⟨b, off, none⟩) m cap) ∧ toT (E.set i (k, some r, .slice a2 rn c2)) = doneT (toT E) k r ∧ Kp T w (fun x => T x ∨ (w.heap.size ≤ x ∧ x < w2.heap.size)) (w2.setCell ⟨b, off + i * 7 + 6, none⟩ (.slice a2 rn c2)) := by
  subst hk
  have hiE : i < E.length := by omega
  have et := toT_done hiE h.nd r (.slice a2 rn c2)
  have hr0 := h.row
  rw [hm] at hr0
  obtain ⟨cur, hh, hc1, hc2, hcs, hg⟩ : ∃ cur, w.heap[b]? = some (.cells cur 50 (0, 0)) ∧ m ≤ cap ∧ cap ≤ maxLen ∧ off + cap * 7 ≤ cur.size ∧ ∀ j, j < m * 7 → cur[off + j]? = (rowD E)[j]? := by
    rcases hr0.2 with ⟨e, _⟩ | ⟨b', off', cap', cur, e, hh, h1, hm, h2, h3⟩
    · simp at e
    · simp only [Value.slice.injEq, Option.some.injEq, Addr.mk.injEq, and_true, true_and] at e
      obtain ⟨⟨rfl, rfl⟩, rfl⟩ := e
      exact ⟨cur, hh, h1, hm, h2, h3⟩
  have hbl := (Array.getElem?_eq_some_iff.1 hh).1
  have hT := h.so b rfl
  have m1 : Mods (fun x => x = b) w (w.setCell ⟨b, off + i * 7 + 5, none⟩ (.bool true)) := (Mods.refl _ w).setCell b _ _ rfl
  have h1b := setc hh (off + i * 7 + 5) (.bool true)
  have hs1 : (w.setCell ⟨b, off + i * 7 + 5, none⟩ (.bool true)).heap.size = w.heap.size := by simp [World.setCell]
  have h2b := (hb.block b hbl).trans h1b
  have m2 : Mods (fun x => x = b) w w2 := m1.below (by rw [hs1]; exact hb)
  have m3 : Mods (fun x => x = b) w2 (w2.setCell ⟨b, off + i * 7 + 6, none⟩ (.slice a2 rn c2)) := (Mods.refl _ w2).setCell b _ _ rfl
  have m4 : Mods (fun x => x = b) w (w2.setCell ⟨b, off + i * 7 + 6, none⟩ (.slice a2 rn c2)) := m2.tr m3
  have hs3 : (w2.setCell ⟨b, off + i * 7 + 6, none⟩ (.slice a2 rn c2)).heap.size = w2.heap.size := by simp [World.setCell]
  refine ⟨⟨(m4.block q (Array.getElem?_eq_some_iff.1 h.box).1 (fun e => h.noq rfl e.symm)).trans h.box, ⟨by rw [rowD_len, List.length_set], ?_⟩, fun e he => ?_, by rw [et, doneT_keys]; exact h.nd, .inl h.sq, fun x hx => .inl (h.so x hx), fun x hx => ?_⟩, et, ⟨fun x hx => ?_, m4.weak (fun x hx => .inl (by rw [hx]; exact hT))⟩⟩
  · have hls : (E.set i ((E[i]'hiE).1, some r, .slice a2 rn c2)).length = m := by rw [List.length_set]; exact hm
    refine .inr ⟨b, off, cap, _, congrArg (fun x => Value.slice (some ⟨b, off, none⟩) x cap) hls.symm, setc h2b (off + i * 7 + 6) _, Nat.le_trans (Nat.le_of_eq hls) hc1, hc2, by simpa using hcs, fun j hj => ?_⟩
    have hj : j < m * 7 := Nat.lt_of_lt_of_le hj (Nat.le_of_eq (congrArg (fun x => x * 7) hls))
    rw [rowD_set E hiE, Array.getElem?_setIfInBounds, Array.size_setIfInBounds]
    by_cases e5 : j = i * 7 + 5
    · rw [if_pos e5, if_neg (by omega), Array.getElem?_setIfInBounds, if_pos (by omega), if_pos (by omega)]
    · rw [if_neg e5]
      by_cases e6 : j = i * 7 + 6
      · rw [if_pos e6, if_pos (by omega), if_pos (by omega)]
      · rw [if_neg e6, if_neg (by omega), Array.getElem?_setIfInBounds, if_neg (by omega)]
        exact hg j hj
  · rcases List.mem_or_eq_of_mem_set he with h1 | h1
    · exact (h.rep e h1).off ⟨cur, _, _, hh, by decide⟩ m4 (fun _ h => .inl h)
    · subst h1
      refine ⟨a2, c2, by rw [hrn], ⟨hy.1, fun hp => ?_⟩⟩
      obtain ⟨x, o2, cu, fr, ha, hsb, hhx, hcc⟩ := hy.2 hp
      refine ⟨x, o2, cu, fr, ha, .inr ⟨hsb, (Array.getElem?_eq_some_iff.1 hhx).1⟩, (m3.block x (Array.getElem?_eq_some_iff.1 hhx).1 (fun e => by unfold New at hsb; omega)).trans hhx, hcc⟩
  · rw [hs3]
    rcases hx with h1 | ⟨_, h1⟩
    · exact Nat.lt_of_lt_of_le (h.slt x h1) m2.size
    · exact h1
  · rcases hx with h1 | ⟨h1, _⟩
    · exact .inl h1
    · exact .inr h1
end Go.Proofs.Ythgmghfegaemkaa
