/- Rows of pointers: slices.Index, slices.Delete; cells laid into a block. -/
import Derived.Test.YthgmghfegaemkaaCcA
import Derived.Deep.RegionLaw
import Derived.Lib.SliceRun
import Derived.Lib.Walk
import Derived.LaidEqlPtr
namespace Go.Proofs.Ythgmghfegaemkaa
open Go.RowKit Go.Maps
set_option linter.unusedVariables false

abbrev pv (b : Nat) : Value := .pointer (some ⟨b, 0, none⟩)
/-- Pointers to structs are compared by their places. -/
theorem ptr_same {tp te : TypeId} {s : Nat} (hp : Try.prog.underlying tp = some (.pointer te)) (hi : (Try.prog.info? te).map (·.size) = some (s + 1)) (w : World) (b : Nat) : (binOp .eql tp (pv b) (pv b)).run Try.prog w = .ok (.bool true) w := by
  cases h : Try.prog.info? te with
  | none => rw [h] at hi; cases hi
  | some j => exact run_eql_ptr_same w _ hp h
theorem ptr_other {tp te : TypeId} {s : Nat} (hp : Try.prog.underlying tp = some (.pointer te)) (hi : (Try.prog.info? te).map (·.size) = some (s + 1)) {w : World} {a b : Nat} {ca cb : Array Value} {ta tb : TypeId} (hne : a ≠ b) (ha : w.heap[a]? = some (.cells ca ta (0, 0))) (hb : w.heap[b]? = some (.cells cb tb (0, 0))) :
    (binOp .eql tp (pv a) (pv b)).run Try.prog w = .ok (.bool false) w := by
  cases h : Try.prog.info? te with
  | none => rw [h] at hi; cases hi
  | some j =>
    rw [h] at hi
    simp at hi
    exact run_eql_ptr_other w hp h (by omega) (fun e => hne (by first | (simp at e) | (simpa using e))) ha hb

/-! ### cells laid into a block -/
def putA (cur : Array Value) : Nat → List Value → Array Value
  | _, [] => cur
  | o, x :: r => putA (cur.setIfInBounds o x) (o + 1) r
theorem putA_size : ∀ (vs : List Value) (cur : Array Value) (o : Nat), (putA cur o vs).size = cur.size
  | [], _, _ => rfl
  | x :: r, cur, o => by rw [putA, putA_size r]; simp
theorem putA_get : ∀ (vs : List Value) (cur : Array Value) (o : Nat), o + vs.length ≤ cur.size → ∀ j, (putA cur o vs)[j]? = if o ≤ j ∧ j < o + vs.length then vs[j - o]? else cur[j]?
  | [], cur, o, _, j => by rw [if_neg (by simp)]; rfl
  | x :: r, cur, o, h, j => by
    simp only [List.length_cons] at h ⊢
    rw [putA, putA_get r _ _ (by simp; omega)]
    by_cases e : o ≤ j ∧ j < o + (r.length + 1)
    · rw [if_pos e]
      by_cases e2 : j = o
      · subst e2
        rw [if_neg (by omega), Array.getElem?_setIfInBounds]
        simp
        omega
      · rw [if_pos (by omega), show j - o = (j - (o + 1)) + 1 by omega]
        simp
    · rw [if_neg e, if_neg (by omega), Array.getElem?_setIfInBounds, if_neg (by omega)]
theorem setCells_heap {g : Nat} {t : TypeId} : ∀ (vs : List Value) (w : World) (cur : Array Value) (o : Nat), w.heap[g]? = some (.cells cur t (0, 0)) → (w.setCells g o vs).heap[g]? = some (.cells (putA cur o vs) t (0, 0))
  | [], _, _, _, h => h
  | x :: r, w, cur, o, h => by
    show ((w.setCell ⟨g, o, none⟩ x).setCells g (o + 1) r).heap[g]? = _
    rw [setCells_heap r _ _ (o + 1) (setc h o x)]
    rfl
theorem setCells_mods (g : Nat) : ∀ (vs : List Value) (w : World) (o : Nat), Mods (fun b => b = g) w (w.setCells g o vs)
  | [], w, _ => Mods.refl _ w
  | x :: r, w, o => ((Mods.refl (fun b => b = g) w).setCell g o x rfl).tr (setCells_mods g r _ (o + 1))
/-- The block behind a row. -/
theorem owns_block {w : World} {base e g n cap : Nat} {xs : List Value} (h : w.ownsRow base e 1 (.slice (some ⟨g, 0, none⟩) n cap) n xs) : ∃ cur, w.heap[g]? = some (.cells cur e (0, 0)) ∧ n ≤ cap ∧ cap ≤ maxLen ∧ cur.size = cap ∧ (∀ j, j < n → cur[j]? = xs[j]?) ∧ xs.length = n := by
  have h1 := h.1
  rcases h.2 with ⟨e, _⟩ | ⟨g', cap', cur, e, _, hh, hc1, hc2, hcs, ht⟩
  · cases e
  · simp only [Value.slice.injEq, Option.some.injEq, Addr.mk.injEq] at e
    obtain ⟨⟨rfl, _⟩, _, rfl⟩ := e
    refine ⟨cur, hh, hc1, hc2, by omega, fun j hj => ?_, by omega⟩
    rw [← ht, List.getElem?_take, if_pos (by omega), Array.getElem?_toList]
theorem owns_of_block {w : World} {e g n cap : Nat} {xs : List Value} {cur : Array Value} (h : w.heap[g]? = some (.cells cur e (0, 0))) (h1 : n ≤ cap) (h2 : cap ≤ maxLen) (h3 : cur.size = cap) (h4 : ∀ j, j < n → cur[j]? = xs[j]?) (h5 : xs.length = n) : w.ownsRow 0 e 1 (.slice (some ⟨g, 0, none⟩) n cap) n xs := by
  refine ⟨by omega, .inr ⟨g, cap, cur, rfl, Nat.zero_le _, h, h1, h2, by omega, ?_⟩⟩
  apply List.ext_getElem?
  intro j
  rw [List.getElem?_take]
  by_cases hj : j < n
  · rw [if_pos (by omega), Array.getElem?_toList, h4 j hj]
  · rw [if_neg (by omega), List.getElem?_eq_none (by omega)]
end Go.Proofs.Ythgmghfegaemkaa
