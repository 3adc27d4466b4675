import Derived.Test.YtkmljnjikkmdhaaDoorRows
import Derived.Test.YtkmljnjikkmdhaaDoorWalkI
import Derived.Test.YtkmljnjikkmdhaaDoorWalkJ
import Derived.Deep.DeepAppendWide
import Derived.Laws.AppendOwnNone
import Derived.WalkKit
import Derived.WalkSpells
import Derived.WalkLawsBesides
import Derived.Deep.QuietTactic
import Derived.BigQuiet
/-
  'append' onto a slice of bytes of the call's own, from any bytes: the new slice holds the old bytes and the new ones behind them; nothing that is not the call's own is changed. Condition: not more than 2^47 + 100000 bytes together.
-/
namespace Go.Proofs.YtkmljnjikkmdhaaDoor
open Go.RowKit
set_option linter.unusedVariables false

/-- A slice of bytes of the call's own: from block 'base' on, holding 'l'. -/
def Own (w : World) (base : Nat) (v : Value) (l : List Int) : Prop := w.ownsRow base 5 1 v l.length (l.map fun x => Value.int .u8 x)
theorem Own.bytes {w : World} {base : Nat} {v : Value} {l : List Int} (h : Own w base v l) (hl : ∀ x ∈ l, IsB x) : ∃ a cap, v = .slice a l.length cap ∧ Bytes w a l ∧ l.length ≤ cap ∧ (a = none → cap = 0) := by
  obtain ⟨h1, h2⟩ := h
  rcases h2 with ⟨rfl, h0⟩ | ⟨g, cap, cur, rfl, hg, hh, hn, hc, hs, ht⟩
  · obtain rfl := List.eq_nil_of_length_eq_zero h0
    exact ⟨none, 0, rfl, Bytes.nil_ _ _, Nat.le_refl _, fun _ => rfl⟩
  · refine ⟨some ⟨g, 0, none⟩, cap, rfl, Bytes.mk_ hl fun i hi => ?_, hn, fun e => by cases e⟩
    have hi2 : i < cur.size := by omega
    have e := congrArg (fun q => q[i]?) ht
    simp [hi, hi2] at e
    simp [World.cell?, hh, hi2, e, List.getD, hi]
theorem info5b : ∃ i, Tryd.prog.info? 5 = some i ∧ i.zero = some (.int .u8 0) ∧ i.size = 1 ∧ i.bytes = 1 := by
  obtain ⟨i, hi, hz⟩ := Option.map_eq_some_iff.1 info5
  simp only [Prod.mk.injEq] at hz
  exact ⟨i, hi, hz.1, hz.2.1, hz.2.2⟩

/-- 'append(dst, src...)', dst of the call's own, src any bytes, nil too. -/
theorem wpList_append_bytes {w : World} {ops : Array Oper} {rest : List Oper} {o : Oper} {a : Act} {Q : Exit → Act → World → Prop} (hgd : o.guard = none) (s x : Operand)
    (ho : o.op = .call { callee := .builtin .append, args := #[s, x], argTypes := #[22, 22] })
    (base : Nat) (v : Value) (l m : List Int) (hs : a.eval s = v) (hown : Own w base v l)
    (ad : Option Addr) (cap : Nat) (hx : a.eval x = .slice ad m.length cap) (hm : Bytes w ad m) (hnil : ad = none → cap = 0)
    (hb : l.length + m.length ≤ 140737488455328) (hbase : base ≤ w.heap.size) (B : Nat) (w0 : World) (hB : B ≤ base) (hbel : Below B w0 w)
    (h : ∀ v' w', Hid (Own w' base v' (l ++ m)) → Below B w0 w' → wpList Tryd.prog ops Q rest (a.put o.dst v') w') : wpList Tryd.prog ops Q (o :: rest) a w := by
  obtain ⟨i, hi, hz, hz1, hz2⟩ := info5b
  have fin : ∀ v' w', w'.ownsRow base 5 1 v' (l.length + m.length) ((l.map fun x => Value.int .u8 x) ++ (m.map fun x => Value.int .u8 x)) → w.grownBy w' v.ownBlock → wpList Tryd.prog ops Q rest (a.put o.dst v') w' := by
    intro v' w' ho' hg
    refine h v' w' (show Own _ _ _ _ by unfold Own; simpa using ho') (hbel.grown hg (Nat.le_trans hB hbase) fun k hk => ?_)
    rcases hown.2 with ⟨rfl, _⟩ | ⟨g, c, cur, rfl, hgb, _⟩
    · simp [Value.ownBlock] at hk
    · simp [Value.ownBlock] at hk; omega
  by_cases h0 : m.length = 0
  · obtain rfl := List.eq_nil_of_length_eq_zero h0
    cases ad with
    | none =>
      obtain rfl := hnil rfl
      refine wpList_append_own_none hgd s x 22 ho base 5 i 1 Tryd.underlying22 hi v l.length _ hs hown hx ?_
      exact h v w (show Own _ _ _ _ by simpa using hown) hbel
    | some ad =>
      refine wpList_append_own_wide w hgd s x 22 ho base 5 i (.int .u8 0) 1 1 Tryd.underlying22 hi hz hz1 hz2 rfl (by decide) v l.length _ hs hown ad 0 cap [] hx (by simp) (fun j u hj => by simp at hj) (by simp) (by unfold maxLen; simp at hb; omega) (by simp at hb; omega) hbase ?_
      intro v' w' ho' hg _
      exact fin v' w' (by simpa using ho') hg
  · obtain ⟨b, off, rfl, hc⟩ := hm.open_ (by omega)
    refine wpList_append_own_wide w hgd s x 22 ho base 5 i (.int .u8 0) 1 1 Tryd.underlying22 hi hz hz1 hz2 rfl (by decide) v l.length _ hs hown ⟨b, off, none⟩ m.length cap (m.map fun x => Value.int .u8 x) hx (by simp) (fun j u hj => ?_) (fun u hu => by simp at hu; obtain ⟨y, _, rfl⟩ := hu; rfl) (by unfold maxLen; omega) (by omega) hbase ?_
    · simp at hj
      obtain ⟨y, hy, rfl⟩ := hj
      have hj2 : j < m.length := (List.getElem?_eq_some_iff.1 hy).1
      have e : (⟨b, off, none⟩ : Addr).add j = ⟨b, off + j, none⟩ := by unfold Addr.add; split <;> simp_all
      rw [e, hc j hj2]
      simp [List.getD, hy]
    · intro v' w' ho' hg _
      exact fin v' w' ho' hg
/-- '[]byte{}'. -/
theorem own_empty (w : World) : Own (w.alloc (.cells #[] 5)) w.heap.size (.slice (some ⟨w.heap.size, 0, none⟩) 0 0) [] := by
  refine ⟨rfl, .inr ⟨w.heap.size, 0, #[], rfl, Nat.le_refl _, ?_, Nat.le_refl _, Nat.zero_le _, rfl, rfl⟩⟩
  show (w.heap.push _)[w.heap.size]? = _
  simp
theorem Own.mono {w : World} {base base' : Nat} {v : Value} {l : List Int} (h : Own w base v l) (hb : base' ≤ base) : Own w base' v l :=
  ⟨h.1, h.2.elim Or.inl (fun ⟨g, cap, cur, hv, hg, r⟩ => Or.inr ⟨g, cap, cur, hv, Nat.le_trans hb hg, r⟩)⟩
theorem Own.alloc {w : World} {base : Nat} {v : Value} {l : List Int} (h : Own w base v l) (o : Obj) : Own (w.alloc o) base v l := World.ownsRow.alloc h o

/-- 'append(dst, y)', one byte. -/
theorem wpList_append_one {wr : World} {y : Int} {ops : Array Oper} {rest : List Oper} {o : Oper} {a : Act} {Q : Exit → Act → World → Prop} (hgd : o.guard = none) (s x : Operand)
    (ho : o.op = .call { callee := .builtin .append, args := #[s, x], argTypes := #[22, 22] })
    (base : Nat) (v : Value) (l : List Int) (hs : a.eval s = v) (hown : Own wr base v l) (hx : a.eval x = .slice (some ⟨wr.heap.size, 0, none⟩) 1 1) (hy : IsB y)
    (hb : l.length + 1 ≤ 140737488455328) (hbase : base ≤ wr.heap.size) (w0 : World) (hbel : Below base w0 wr)
    (h : ∀ v' w', Hid (Own w' base v' (l ++ [y])) → Below base w0 w' → wpList Tryd.prog ops Q rest (a.put o.dst v') w') : wpList Tryd.prog ops Q (o :: rest) a (wr.alloc (.cells #[.int .u8 y] 5)) :=
  wpList_append_bytes hgd s x ho base v l [y] hs (hown.alloc _) _ 1 hx (bytes_new wr [y] (0, 0) (by simpa using hy)) (fun e => by cases e) hb (by simp; omega) base w0 (Nat.le_refl _) (hbel.alloc hbase _) h
end Go.Proofs.YtkmljnjikkmdhaaDoor
