/- What a crash leaves is, block by block, something that stood there; the table of what was seen. -/
import Derived.Test.YtdbpjdaaggenpaaOwn
import Derived.Test.YtdbpjdaaggenpaaWalkI
import Derived.Test.YtdbpjdaaggenpaaWalkH
namespace Go.Proofs.Ytdbpjdaaggenpaa.diskKeeps
open Go.RowKit

/-- A disk behind k calls, each of which writes one block. -/
def keepA (A : Abs) (cs : List Cl) : Nat → Abs
  | 0 => A
  | k + 1 => wr1 (keepA A cs k) (wi (cs.getD k default).at_ 16) (blk (cs.getD k default).b)
theorem keepA_N (A : Abs) (cs : List Cl) : ∀ k, (keepA A cs k).N = A.N
  | 0 => rfl
  | k + 1 => keepA_N A cs k
theorem keepA_P (A : Abs) (cs : List Cl) : ∀ k, (keepA A cs k).P = A.P
  | 0 => rfl
  | k + 1 => keepA_P A cs k
theorem has16 (A : Abs) (hA : A.N = 16) (cs : List Cl) (k : Nat) (x : Int) (h : 0 ≤ x ∧ x < 16) : hasB (keepA A cs k).N x 1 = true := by
  simp [hasB, keepA_N, hA]; omega

theorem crash_some (A : Abs) (L picks : List Int) (k : Int) : ∀ j, crashTo A L picks j k = A.P k ∨ ∃ l ∈ A.V k, crashTo A L picks j k = some l
  | 0 => .inl rfl
  | j + 1 => by
    simp only [crashTo]
    split
    · rename_i hc
      by_cases e : k = L.getD j 0
      · right
        have hb := wi_bd (picks.getD j 0) ((A.V (L.getD j 0)).length + 1) (by omega)
        have hlt : (wi (picks.getD j 0) ((A.V (L.getD j 0)).length + 1) - 1).toNat < (A.V (L.getD j 0)).length := by omega
        refine ⟨(A.V (L.getD j 0))[(wi (picks.getD j 0) ((A.V (L.getD j 0)).length + 1) - 1).toNat], by rw [e]; exact List.getElem_mem hlt, ?_⟩
        rw [e, upd_same, List.getD, List.getElem?_eq_getElem hlt]
        rfl
      · rw [upd_other _ _ e]
        exact crash_some A L picks k j
    · exact crash_some A L picks k j

/-- What was seen of a block. -/
def seenL (A : Abs) (B : Abs) (i : Nat) : List ByteArray := strOfNums (blockOf A (i : Int)) :: (B.V (i : Int)).map strOfNums
theorem seen_has (A : Abs) (hV : A.V = fun _ => []) (cs : List Cl) (k : Nat) (L picks : List Int) (j i : Nat) :
    strOfNums (blockOf { keepA A cs k with P := crashTo (keepA A cs k) L picks j, V := fun _ => [] } (i : Int)) ∈ seenL A (keepA A cs k) i := by
  unfold seenL
  rcases crash_some (keepA A cs k) L picks (i : Int) j with h | ⟨l, hl, h⟩
  · have : blockOf { keepA A cs k with P := crashTo (keepA A cs k) L picks j, V := fun _ => [] } (i : Int) = blockOf A (i : Int) := by
      simp only [blockOf, lastOf, if_true, hV]
      rw [h, keepA_P]
    rw [this]
    exact List.mem_cons_self
  · have : blockOf { keepA A cs k with P := crashTo (keepA A cs k) L picks j, V := fun _ => [] } (i : Int) = l := by
      simp only [blockOf, lastOf, if_true]
      rw [h]
      rfl
    rw [this]
    exact List.mem_cons_of_mem _ (List.mem_map.2 ⟨l, hl, rfl⟩)
theorem seen_step (A B : Abs) (x : Int) (l : List Int) (i : Nat) : seenL A (wr1 B x l) i = if (i : Int) = x then seenL A B i ++ [strOfNums l] else seenL A B i := by
  unfold seenL wr1
  by_cases e : (i : Int) = x
  · rw [if_pos e, ← e]
    simp [upd_same]
  · rw [if_neg e]
    simp [upd_other _ _ e]

/-- The table of what was seen: sixteen rows of strings, each in a block of its own. -/
structure SeenAt (w : World) (gs : Nat) (G C : Nat → Nat) (S : Nat → List ByteArray) (se : Nat → Prop) : Prop where
  row : w.rowIs gs 51 16 (fun i => .slice (some ⟨G i, 0, none⟩) (S i).length (C i))
  own : ∀ i, i < 16 → w.ownsRow 0 9 1 (.slice (some ⟨G i, 0, none⟩) (S i).length (C i)) (S i).length ((S i).map Value.string)
  ap : ∀ i j, i < 16 → j < 16 → G i = G j → i = j
  lt : ∀ b, se b → b < w.heap.size
  sgs : se gs
  sg : ∀ i, i < 16 → se (G i)
theorem SeenAt.keep {w w' : World} {gs : Nat} {G C : Nat → Nat} {S : Nat → List ByteArray} {se : Nat → Prop} (h : SeenAt w gs G C S se) (hs : w.heap.size ≤ w'.heap.size) (hk : ∀ b, se b → w'.heap[b]? = w.heap[b]?) : SeenAt w' gs G C S se where
  row := h.row.of_block (hk gs h.sgs)
  own := fun i hi => owns_keep (h.own i hi) (fun g hg => by
    have hg : some (G i) = some g := hg
    obtain rfl : G i = g := by simpa using hg
    exact hk _ (h.sg i hi))
  ap := h.ap
  lt := fun b hb => Nat.lt_of_lt_of_le (h.lt b hb) hs
  sgs := h.sgs
  sg := h.sg
theorem SeenAt.ne {w : World} {gs : Nat} {G C : Nat → Nat} {S : Nat → List ByteArray} {se : Nat → Prop} (h : SeenAt w gs G C S se) {i : Nat} (hi : i < 16) : G i ≠ gs := fun e => by
  obtain ⟨cur, hc⟩ := owns_kind (h.own i hi) rfl
  obtain ⟨c, h1, _⟩ := h.row
  rw [e] at hc
  rw [h1] at hc
  cases hc
theorem SeenAt.cell {w : World} {gs : Nat} {G C : Nat → Nat} {S : Nat → List ByteArray} {se : Nat → Prop} (h : SeenAt w gs G C S se) {i j : Nat} (hi : i < 16) (hj : j < (S i).length) : w.cell? ⟨G i, j, none⟩ = some (.string ((S i)[j])) := by
  rcases (h.own i hi).2 with ⟨e, _⟩ | ⟨g, cap, cur, e, _, hh, hc1, _, hcs, ht⟩
  · cases e
  · simp only [Value.slice.injEq, Option.some.injEq, Addr.mk.injEq] at e
    obtain ⟨⟨rfl, _⟩, _, _⟩ := e
    have : cur[j]? = some (.string ((S i)[j])) := by
      have e : (cur.toList.take ((S i).length * 1))[j]? = ((S i).map Value.string)[j]? := by rw [ht]
      rw [List.getElem?_take, if_pos (by omega), List.getElem?_map, List.getElem?_eq_getElem hj] at e
      rw [← Array.getElem?_toList, e]
      rfl
    simp [World.cell?, hh, this]

/-- One more is seen at x. -/
theorem SeenAt.more {w wb : World} {gs : Nat} {G C : Nat → Nat} {S : Nat → List ByteArray} {se : Nat → Prop} (h : SeenAt w gs G C S se) (x : Nat) (hx : x < 16) (s : ByteArray) (g' c' : Nat)
    (hs : w.heap.size ≤ wb.heap.size) (hk : ∀ b, b < w.heap.size → b ≠ G x → wb.heap[b]? = w.heap[b]?) (hown : wb.ownsRow 0 9 1 (.slice (some ⟨g', 0, none⟩) ((S x).length + 1) c') ((S x).length + 1) ((S x).map Value.string ++ [.string s])) (hg : g' = G x ∨ w.heap.size ≤ g') :
    SeenAt (wb.setCell ⟨gs, x, none⟩ (.slice (some ⟨g', 0, none⟩) ((S x).length + 1) c')) gs (fun i => if i = x then g' else G i) (fun i => if i = x then c' else C i) (fun i => if i = x then S i ++ [s] else S i) (fun b => se b ∨ b = g') := by
  have hgs := h.lt gs h.sgs
  have hgl : g' < wb.heap.size := (owns_lt hown rfl).1
  have hgne : gs ≠ g' := by
    rcases hg with e | e
    · rw [e]; exact (h.ne hx).symm
    · omega
  have hrow : wb.rowIs gs 51 16 (fun i => .slice (some ⟨G i, 0, none⟩) (S i).length (C i)) := h.row.of_block (hk gs hgs (h.ne hx).symm)
  refine { row := (hrow.set x _).congr fun i hi => ?_, own := fun i hi => ?_, ap := ?_, lt := ?_, sgs := .inl h.sgs, sg := ?_ }
  · by_cases e : i = x
    · simp [e]
    · simp [e]
  · by_cases e : i = x
    · subst e
      simp only [if_true, List.length_append, List.length_singleton, List.map_append, List.map_cons, List.map_nil]
      exact owns_keep hown (fun g hg' => by
        have hg' : some g' = some g := hg'
        obtain rfl : g' = g := by simpa using hg'
        exact Below.heap_setCell _ _ _ _ hgne.symm)
    · simp only [e, if_false]
      exact owns_keep (h.own i hi) (fun g hg' => by
        have hg' : some (G i) = some g := hg'
        obtain rfl : G i = g := by simpa using hg'
        exact (Below.heap_setCell _ _ _ _ (h.ne hi)).trans (hk _ (h.lt _ (h.sg i hi)) (fun e2 => e (h.ap i x hi hx e2))))
  · intro i j hi hj e
    have key : ∀ i, i < 16 → i ≠ x → G i ≠ g' := fun i hi hne e => by
      rcases hg with e2 | e2
      · exact hne (h.ap i x hi hx (e.trans e2))
      · have := h.lt _ (h.sg i hi); omega
    by_cases e1 : i = x
    · by_cases e2 : j = x
      · omega
      · simp only [e1, if_true, e2, if_false] at e
        exact absurd e.symm (key j hj e2)
    · by_cases e2 : j = x
      · simp only [e1, if_false, e2, if_true] at e
        exact absurd e (key i hi e1)
      · simp only [e1, if_false, e2] at e
        exact h.ap i j hi hj e
  · rintro b (hb | rfl)
    · have := h.lt b hb; simp [World.setCell]; omega
    · simpa [World.setCell] using hgl
  · intro i hi
    by_cases e : i = x
    · simp [e]
    · simp only [e, if_false]; exact .inl (h.sg i hi)
end Go.Proofs.Ytdbpjdaaggenpaa.diskKeeps
