import Derived.Test.YtkmljnjikkmdhaaDoorRows
import Derived.Test.YtkmljnjikkmdhaaDoorWalkQ
import Derived.WalkKit
import Derived.WalkSpells
import Derived.WalkLawsBesides
import Derived.Deep.QuietTactic
import Derived.BigQuiet
/-
  Rows that are lent, one behind the other, and all bytes gathered beside them: what stands in memory behind k rounds of NumSums' first loop, and that one round more keeps it. Conditions: at most 10^8 bytes, 10^5 rows.
-/
namespace Go.Proofs.YtkmljnjikkmdhaaDoor
open Go.RowKit
set_option linter.unusedVariables false

theorem owns_lt {w : World} {base s n g : Nat} {e : TypeId} {v : Value} {xs : List Value} (h : w.ownsRow base e s v n xs) (hg : v.ownBlock = some g) : g < w.heap.size ∧ base ≤ g := by
  rcases h.2 with ⟨rfl, _⟩ | ⟨g', cap, cur, rfl, hb, hh, _⟩
  · simp [Value.ownBlock] at hg
  · simp [Value.ownBlock] at hg
    subst hg
    obtain ⟨hlt, _⟩ := Array.getElem?_eq_some_iff.1 hh
    exact ⟨hlt, hb⟩
theorem owns_keep {w w' : World} {base s n : Nat} {e : TypeId} {v : Value} {xs : List Value} (h : w.ownsRow base e s v n xs) (hk : ∀ g, v.ownBlock = some g → w'.heap[g]? = w.heap[g]?) : w'.ownsRow base e s v n xs := by
  refine ⟨h.1, h.2.elim Or.inl (fun ⟨g, cap, cur, hv, hg, hh, r⟩ => Or.inr ⟨g, cap, cur, hv, hg, ?_, r⟩)⟩
  rw [hk g (by rw [hv]; rfl)]
  exact hh

/-- 'append(dst, src...)' of bytes, with where the new slice lies. -/
theorem wpList_append_where {w : World} {ops : Array Oper} {rest : List Oper} {o : Oper} {a : Act} {Q : Exit → Act → World → Prop} (hgd : o.guard = none) (s x : Operand)
    (ho : o.op = .call { callee := .builtin .append, args := #[s, x], argTypes := #[22, 22] })
    (base : Nat) (v : Value) (l m : List Int) (hs : a.eval s = v) (hown : Own w base v l)
    (n : Nat) (hn : m.length = n) (ad : Option Addr) (cap : Nat) (hx : a.eval x = .slice ad n cap) (hm : Bytes w ad m) (hnil : ad = none → cap = 0)
    (hb : l.length + m.length ≤ 100000000) (hbase : base ≤ w.heap.size)
    (h : ∀ v' w', Hid (Own w' base v' (l ++ m)) → Hid (w.grownBy w' v.ownBlock) → Hid (v'.ownBlock = v.ownBlock ∨ v'.ownBlock = some w.heap.size) → wpList Tryd.prog ops Q rest (a.put o.dst v') w') : wpList Tryd.prog ops Q (o :: rest) a w := by
  subst hn
  obtain ⟨i, hi, hz, hz1, hz2⟩ := info5b
  by_cases h0 : m.length = 0
  · obtain rfl := List.eq_nil_of_length_eq_zero h0
    cases ad with
    | none =>
      obtain rfl := hnil rfl
      refine wpList_append_own_none hgd s x 22 ho base 5 i 1 Tryd.underlying22 hi v l.length _ hs hown hx ?_
      exact h v w (hid (by simpa using hown)) (hid ⟨rfl, rfl, rfl, Nat.le_refl _, fun _ _ _ => rfl⟩) (hid (Or.inl rfl))
    | some ad =>
      refine wpList_append_own_at w hgd s x 22 ho base 5 i (.int .u8 0) 1 1 Tryd.underlying22 hi hz hz1 hz2 rfl (by decide) v l.length _ hs hown ad 0 cap [] hx (by simp) (fun j u hj => by simp at hj) (by simp) (by unfold maxLen; simp at hb; omega) (by simp at hb; omega) hbase ?_
      intro v' w' ho' hg _ hat
      exact h v' w' (hid (by unfold Own; simpa using ho')) (hid hg) (hid hat)
  · obtain ⟨b, off, rfl, hc⟩ := hm.open_ (by omega)
    refine wpList_append_own_at w hgd s x 22 ho base 5 i (.int .u8 0) 1 1 Tryd.underlying22 hi hz hz1 hz2 rfl (by decide) v l.length _ hs hown ⟨b, off, none⟩ m.length cap (m.map fun x => Value.int .u8 x) hx (by simp) (fun j u hj => ?_) (fun u hu => by simp at hu; obtain ⟨y, _, rfl⟩ := hu; rfl) (by unfold maxLen; omega) (by omega) hbase ?_
    · simp at hj
      obtain ⟨y, hy, rfl⟩ := hj
      have hj2 : j < m.length := (List.getElem?_eq_some_iff.1 hy).1
      have e : (⟨b, off, none⟩ : Addr).add j = ⟨b, off + j, none⟩ := by unfold Addr.add; split <;> simp_all
      rw [e, hc j hj2]
      simp [List.getD, hy]
    · intro v' w' ho' hg _ hat
      exact h v' w' (hid (by unfold Own; simpa using ho')) (hid hg) (hid hat)

theorem info22 : (Tryd.prog.info? 22).map (fun i => (i.zero, i.size, i.bytes)) = some (some (.slice none 0 0), 1, 24) := by kernel_rfl
/-- 'append(rows, row)'. -/
theorem wpList_append_row {wr : World} {y : Value} {ops : Array Oper} {rest : List Oper} {o : Oper} {a : Act} {Q : Exit → Act → World → Prop} (hgd : o.guard = none) (s x : Operand)
    (ho : o.op = .call { callee := .builtin .append, args := #[s, x], argTypes := #[39, 39] })
    (base : Nat) (v : Value) (n : Nat) (xs : List Value) (hs : a.eval s = v) (hown : wr.ownsRow base 22 1 v n xs) (hx : a.eval x = .slice (some ⟨wr.heap.size, 0, none⟩) 1 1) (hy : y.oneCell' = true)
    (hb : n + 1 ≤ 100000) (hbase : base ≤ wr.heap.size)
    (h : ∀ v' w', Hid (w'.ownsRow base 22 1 v' (n + 1) (xs ++ [y])) → Hid ((wr.alloc (.cells #[y] 22)).grownBy w' v.ownBlock) → Hid (v'.ownBlock = v.ownBlock ∨ v'.ownBlock = some (wr.heap.size + 1)) → wpList Tryd.prog ops Q rest (a.put o.dst v') w') : wpList Tryd.prog ops Q (o :: rest) a (wr.alloc (.cells #[y] 22)) := by
  obtain ⟨i, hi, hz⟩ := Option.map_eq_some_iff.1 info22
  simp only [Prod.mk.injEq] at hz
  refine wpList_append_own_at _ hgd s x 39 ho base 22 i (.slice none 0 0) 1 24 Tryd.underlying39 hi hz.1 hz.2.1 hz.2.2 rfl (by decide) v n xs hs (World.ownsRow.alloc hown _) ⟨wr.heap.size, 0, none⟩ 1 1 [y] hx (by simp) (cell_one_new _ _ _) (by simpa using hy) (by unfold maxLen; omega) (by omega) (by simp; omega) ?_
  intro v' w' ho' hg _ hat
  exact h v' w' (hid ho') (hid hg) (hid (by simpa using hat))

def lentCell (ls : List (List Int)) (gs : Nat → Nat) (i : Nat) : Value := .slice (some ⟨gs i, 0, none⟩) (ls.getD i []).length ((ls.getD i []).length + 9)
/-- What stands in memory behind k rounds: all bytes, all lent rows, apart. -/
structure St (base : Nat) (w0 wr : World) (ls : List (List Int)) (k : Nat) (vA vM : Value) (gs : Nat → Nat) : Prop where
  all : Own wr base vA (upTo ls k 0)
  mine : wr.ownsRow base 22 1 vM k ((List.range k).map (lentCell ls gs))
  rows : ∀ i, i < k → wr.rowIs (gs i) 5 ((ls.getD i []).length + 9) (fun j => .int .u8 (marks (ls.getD i []) j))
  low : ∀ i, i < k → base ≤ gs i
  apart : ∀ g, vA.ownBlock = some g → vM.ownBlock ≠ some g
  apartA : ∀ i, i < k → vA.ownBlock ≠ some (gs i)
  apartM : ∀ i, i < k → vM.ownBlock ≠ some (gs i)
  below : Below base w0 wr
theorem below_grown {B : Nat} {w0 w w' : World} {row : Option Nat} (h : Below B w0 w) (hg : w.grownBy w' row) (hB : B ≤ w.heap.size) (hr : ∀ k, row = some k → B ≤ k) : Below B w0 w' := h.grown hg hB hr
theorem St.step {base : Nat} {w0 wr w2 w3 w5 : World} {ls : List (List Int)} {k : Nat} {vA vM vA' vM' : Value} {gs : Nat → Nat}
    (h : St base w0 wr ls k vA vM gs) (hbase : base ≤ wr.heap.size)
    (hA : Own w2 base vA' (upTo ls (k + 1) 0)) (hgA : wr.grownBy w2 vA.ownBlock) (hatA : vA'.ownBlock = vA.ownBlock ∨ vA'.ownBlock = some wr.heap.size)
    (hb3 : Below w2.heap.size w2 w3) (hs3 : w3.heap.size = w2.heap.size + 1)
    (hr3 : w3.rowIs w2.heap.size 5 ((ls.getD k []).length + 9) (fun j => .int .u8 (marks (ls.getD k []) j)))
    (hM : w5.ownsRow base 22 1 vM' (k + 1) ((List.range k).map (lentCell ls gs) ++ [.slice (some ⟨w2.heap.size, 0, none⟩) (ls.getD k []).length ((ls.getD k []).length + 9)]))
    (hgM : (w3.alloc (.cells #[.slice (some ⟨w2.heap.size, 0, none⟩) (ls.getD k []).length ((ls.getD k []).length + 9)] 22)).grownBy w5 vM.ownBlock) (hatM : vM'.ownBlock = vM.ownBlock ∨ vM'.ownBlock = some (w3.heap.size + 1)) :
    St base w0 w5 ls (k + 1) vA' vM' (fun i => if i = k then w2.heap.size else gs i) := by
  have hz2 := hgA.size
  have blk3 : ∀ g, g < w2.heap.size → w3.heap[g]? = w2.heap[g]? := fun g hg => hb3.block g hg
  have blk5 : ∀ g, g < w3.heap.size → vM.ownBlock ≠ some g → w5.heap[g]? = w3.heap[g]? := fun g hg hne => by
    rw [hgM.block g (by simp; omega) (fun e => hne e.symm)]
    exact Below.heap_alloc _ _ _ hg
  have blk2 : ∀ g, g < wr.heap.size → vA.ownBlock ≠ some g → w2.heap[g]? = wr.heap[g]? := fun g hg hne => hgA.block g hg (fun e => hne e.symm)
  have hMlt : ∀ g, vM.ownBlock = some g → g < wr.heap.size ∧ base ≤ g := fun g hg => owns_lt h.mine hg
  have hAlt : ∀ g, vA'.ownBlock = some g → g < w2.heap.size ∧ base ≤ g := fun g hg => owns_lt hA hg
  have hA0 : ∀ g, vA.ownBlock = some g → g < wr.heap.size ∧ base ≤ g := fun g hg => owns_lt h.all hg
  have apA : ∀ g, vA'.ownBlock = some g → vM.ownBlock ≠ some g := by
    intro g hg hm
    have := hMlt g hm
    rcases hatA with e | e
    · exact h.apart g (e ▸ hg) hm
    · rw [e] at hg; simp at hg; omega
  refine ⟨?_, ?_, ?_, ?_, ?_, ?_, ?_, ?_⟩
  · refine owns_keep (w := w2) hA fun g hg => ?_
    have hl := hAlt g hg
    rw [blk5 g (by omega) (apA g hg), blk3 g hl.1]
  · have e : (List.range (k + 1)).map (lentCell ls fun i => if i = k then w2.heap.size else gs i) = (List.range k).map (lentCell ls gs) ++ [.slice (some ⟨w2.heap.size, 0, none⟩) (ls.getD k []).length ((ls.getD k []).length + 9)] := by
      rw [List.range_succ, List.map_append]
      congr 1
      · apply List.map_congr_left
        intro i hi
        simp at hi
        simp [lentCell, show ¬ i = k by omega]
      · simp [lentCell]
    rw [e]
    exact hM
  · intro i hi
    by_cases hik : i = k
    · subst hik
      rw [if_pos rfl]
      refine hr3.of_block (blk5 _ (by omega) fun hm => ?_)
      have := hMlt _ hm
      omega
    · rw [if_neg hik]
      have hr := h.rows i (by omega)
      have hlt := hr.lt
      refine hr.of_block ?_
      rw [blk5 _ (by omega) (h.apartM i (by omega)), blk3 _ (by omega), blk2 _ hlt (h.apartA i (by omega))]
  · intro i hi
    by_cases hik : i = k
    · rw [if_pos hik]; omega
    · rw [if_neg hik]; exact h.low i (by omega)
  · intro g hg hm
    have hl := hAlt g hg
    rcases hatM with e | e
    · exact apA g hg (e ▸ hm)
    · rw [e] at hm; simp at hm; omega
  · intro i hi hg
    by_cases hik : i = k
    · rw [if_pos hik] at hg
      have := hAlt _ hg
      omega
    · rw [if_neg hik] at hg
      have hlt := (h.rows i (by omega)).lt
      rcases hatA with e | e
      · exact h.apartA i (by omega) (e ▸ hg)
      · rw [e] at hg; simp at hg; omega
  · intro i hi hg
    by_cases hik : i = k
    · rw [if_pos hik] at hg
      rcases hatM with e | e
      · rw [e] at hg
        have := hMlt _ hg
        omega
      · rw [e] at hg; simp at hg; omega
    · rw [if_neg hik] at hg
      have hlt := (h.rows i (by omega)).lt
      rcases hatM with e | e
      · exact h.apartM i (by omega) (e ▸ hg)
      · rw [e] at hg; simp at hg; omega
  · have h2 : Below base w0 w2 := h.below.grown hgA hbase (fun g hg => (hA0 g hg).2)
    have h3 : Below base w0 w3 := h2.trans (hb3.mono (by omega))
    exact (h3.alloc (by omega) _).grown hgM (by simp; omega) (fun g hg => (hMlt g hg).2)
end Go.Proofs.YtkmljnjikkmdhaaDoor
