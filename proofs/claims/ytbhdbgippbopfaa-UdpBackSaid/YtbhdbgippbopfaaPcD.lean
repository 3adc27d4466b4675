/- Bytes of one's own that are stored into; the document's Echo. -/
import Derived.Test.YtbhdbgippbopfaaPbF
namespace Go.Proofs.Ytbhdbgippbopfaa
open Go.RowKit Go.Maps
set_option linter.unusedVariables false
/-- Cells that are these bytes. -/
def BC (cur : Array Value) (l : List Int) : Prop := ∀ i, i < l.length → cur[i]? = some (.int .u8 (l.getD i 0))
theorem BC.set {cur : Array Value} {l : List Int} (h : BC cur l) (k : Nat) (x : Int) (hk : k < l.length) : BC (cur.setIfInBounds k (.int .u8 x)) (l.set k x) := fun i hi => by
  rw [List.length_set] at hi
  have hc := h i hi
  have hs : i < cur.size := by
    rcases Nat.lt_or_ge i cur.size with h1 | h1
    · exact h1
    · rw [Array.getElem?_eq_none h1] at hc; simp at hc
  rw [Array.getElem?_setIfInBounds]
  by_cases e : k = i
  · subst e
    rw [if_pos rfl, if_pos hs]
    simp [List.getD, hk]
  · rw [if_neg e, hc]
    simp [List.getD, e]
theorem GO.cells {w : World} {B n c : Nat} {a : Option Addr} {l : List Int} (h : GO w B (.slice a n c) l) (hn : l.length = n) (hp : 0 < n) : ∃ g cur, a = some ⟨g, 0, none⟩ ∧ B ≤ g ∧ w.heap[g]? = some (.cells cur 5 (0, 0)) ∧ n ≤ c ∧ n ≤ cur.size ∧ BC cur l := by
  obtain ⟨hI, h1, h2⟩ := h
  rcases h2 with ⟨e, h0⟩ | ⟨g, cap, cur, e, hg, hh, hc1, hc2, hcs, ht⟩
  · omega
  · simp only [Value.slice.injEq] at e
    obtain ⟨rfl, _, rfl⟩ := e
    refine ⟨g, cur, rfl, hg, hh, by omega, by omega, fun i hi => ?_⟩
    have e : (cur.toList.take (l.length * 1))[i]? = (u8s l)[i]? := by rw [ht]
    rw [List.getElem?_take, if_pos (by omega), Array.getElem?_toList, u8s_get hi] at e
    exact e
theorem BC.bytes {w : World} {g : Nat} {cur : Array Value} {l : List Int} {S : Nat → Prop} (h : BC cur l) (hh : w.heap[g]? = some (.cells cur 5 (0, 0))) (hI : ∀ x ∈ l, IsB x) (hS : S g) : By w S (some ⟨g, 0, none⟩) l :=
  ⟨hI, fun _ => ⟨g, 0, cur, (0, 0), rfl, hS, hh, fun i hi => by rw [Nat.zero_add]; exact h i hi⟩⟩
theorem isB_set {l : List Int} (h : ∀ x ∈ l, IsB x) (k : Nat) {y : Int} (hy : IsB y) : ∀ x ∈ l.set k y, IsB x := by
  intro x hx
  rcases List.mem_or_eq_of_mem_set hx with h1 | h1
  · exact h x h1
  · rw [h1]; exact hy
theorem zero4 (w : World) : GO (w.alloc (.cells #[.int .u8 0, .int .u8 0, .int .u8 0, .int .u8 0] 5)) w.heap.size (.slice (some ⟨w.heap.size, 0, none⟩) 4 4) [0, 0, 0, 0] :=
  ⟨fun x hx => by simp at hx; subst hx; unfold IsB; omega, rfl, .inr ⟨w.heap.size, 4, _, rfl, Nat.le_refl _, alloc_new w _, Nat.le_refl _, by unfold maxLen; omega, by simp, by simp [u8s]⟩⟩
theorem inet_four (l : List Int) : inetL ([0, 0, 0, 0] ++ l) = inetL (bytesBe 2 0 ++ l) := by
  have e : bytesBe 2 0 = [0, 0] := by decide
  rw [e]
  unfold inetL
  simp only [List.cons_append, List.nil_append, wsum]
  rw [show (0 + 1 + 1 + 1 + 1 : Nat) = 2 + 2 by rfl, wsum_par 2]
  simp
theorem be2 (S : Int) : bytesBe 2 S = [S / 256 % 256, S % 256] := by
  simp [bytesBe, List.range, List.range.loop]
theorem kind_be (l : List Int) (h : ∀ x ∈ l, IsB x) (hl : 2 ≤ l.length) : beOf ((l.drop 0).take 2) = l.getD 0 0 * 256 + l.getD 1 0 := by
  match l, hl with
  | x :: y :: l, _ => simp [beOf, beOn]
end Go.Proofs.Ytbhdbgippbopfaa
