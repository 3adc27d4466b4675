/- Bytes of a law's own, appended to; what a chain that is read can be; what Give leaves as it was. -/
import Derived.Test.YtjnhcbompgmknaaFrame
import Derived.Laws.AppendOwnNone
import Derived.Laws.BytesString
import Derived.Laws.BytesArg
namespace Go.Proofs.Ytjnhcbompgmknaa
open Go.RowKit

/-- A slice of bytes of the call's own: from block 'base' on, holding 'l'. -/
def Own (w : World) (base : Nat) (v : Value) (l : List Int) : Prop := w.ownsRow base 5 1 v l.length (l.map fun x => Value.int .u8 x)
theorem info5b : ∃ i, Try.prog.info? 5 = some i ∧ i.zero = some (.int .u8 0) ∧ i.size = 1 ∧ i.bytes = 1 := by
  obtain ⟨i, hi, hz⟩ := Option.map_eq_some_iff.1 info5
  simp only [Prod.mk.injEq] at hz
  exact ⟨i, hi, hz.1, hz.2.1, hz.2.2⟩
theorem Own.open_ {w : World} {base : Nat} {v : Value} {l : List Int} (h : Own w base v l) (hp : 0 < l.length) (hB : ∀ x ∈ l, IsB x) : ∃ g cap, v = .slice (some ⟨g, 0, none⟩) l.length cap ∧ l.length ≤ cap ∧ cap ≤ maxLen ∧ base ≤ g ∧ g < w.heap.size ∧ Mem w g l.length (fun i => l.getD i 0) := by
  rcases h.2 with ⟨_, h0⟩ | ⟨g, cap, cur, rfl, hb, hh, hc1, hc2, hcs, ht⟩
  · omega
  · refine ⟨g, cap, rfl, hc1, hc2, hb, (Array.getElem?_eq_some_iff.1 hh).1, ⟨cur, hh, by omega, fun i hi => ?_⟩, fun i hi => ?_⟩
    · have e : (cur.toList.take (l.length * 1))[i]? = (l.map fun x => Value.int .u8 x)[i]? := by rw [ht]
      rw [List.getElem?_take] at e
      simp [hi] at e
      rw [e]
      simp [List.getD, hi]
    · show IsB (l.getD i 0)
      rw [show l.getD i 0 = l[i] by simp [List.getD, hi]]
      exact hB _ (List.getElem_mem hi)
theorem Own.shape {w : World} {base : Nat} {v : Value} {l : List Int} (h : Own w base v l) : ∃ a c, v = .slice a l.length c := owns_slice h
/-- 'append(dst, src...)', dst of the call's own, src any bytes, nil too. -/
theorem wpList_append_bytes {w : World} {ops : Array Oper} {rest : List Oper} {o : Oper} {a : Act} {Q : Exit → Act → World → Prop} (hgd : o.guard = none) (s x : Operand)
    (ho : o.op = .call { callee := .builtin .append, args := #[s, x], argTypes := #[36, 36] })
    (base : Nat) (v : Value) (l m : List Int) (hs : a.eval s = v) (hown : Own w base v l)
    (ad : Option Addr) (cap : Nat) (hx : a.eval x = .slice ad m.length cap) (hm : Bytes w ad m) (hnil : ad = none → cap = 0)
    (hb : l.length + m.length ≤ 1099511627776) (hbase : base ≤ w.heap.size) (B : Nat) (w0 : World) (hB : B ≤ base) (hbel : Below B w0 w)
    (h : ∀ v' w', Hid (Own w' base v' (l ++ m)) → Hid (Below B w0 w') → wpList Try.prog ops Q rest (a.put o.dst v') w') : wpList Try.prog ops Q (o :: rest) a w := by
  obtain ⟨i, hi, hz, hz1, hz2⟩ := info5b
  have fin : ∀ v' w', w'.ownsRow base 5 1 v' (l.length + m.length) ((l.map fun x => Value.int .u8 x) ++ (m.map fun x => Value.int .u8 x)) → w.grownBy w' v.ownBlock → wpList Try.prog ops Q rest (a.put o.dst v') w' := by
    intro v' w' ho' hg
    refine h v' w' (show Own _ _ _ _ by unfold Own; simpa using ho') (hid (hbel.grown hg (Nat.le_trans hB hbase) fun k hk => ?_))
    rcases hown.2 with ⟨rfl, _⟩ | ⟨g, c, cur, rfl, hgb, _⟩
    · simp [Value.ownBlock] at hk
    · simp [Value.ownBlock] at hk; omega
  by_cases h0 : m.length = 0
  · obtain rfl := List.eq_nil_of_length_eq_zero h0
    cases ad with
    | none =>
      obtain rfl := hnil rfl
      refine wpList_append_own_none hgd s x 36 ho base 5 i 1 Try.underlying36 hi v l.length _ hs hown hx ?_
      exact h v w (show Own _ _ _ _ by simpa using hown) (hid hbel)
    | some ad =>
      refine wpList_append_own_at w hgd s x 36 ho base 5 i (.int .u8 0) 1 1 Try.underlying36 hi hz hz1 hz2 rfl (by decide) v l.length _ hs hown ad 0 cap [] hx (by simp) (fun j u hj => by simp at hj) (by simp) (by unfold maxLen; simp at hb; omega) (by simp at hb; omega) hbase ?_
      intro v' w' ho' hg _ _
      exact fin v' w' (by simpa using ho') hg
  · obtain ⟨b, off, rfl, hc⟩ := hm.open_ (by omega)
    refine wpList_append_own_at w hgd s x 36 ho base 5 i (.int .u8 0) 1 1 Try.underlying36 hi hz hz1 hz2 rfl (by decide) v l.length _ hs hown ⟨b, off, none⟩ m.length cap (m.map fun x => Value.int .u8 x) hx (by simp) (fun j u hj => ?_) (fun u hu => by simp at hu; obtain ⟨y, _, rfl⟩ := hu; rfl) (by unfold maxLen; omega) (by omega) hbase ?_
    · simp at hj
      obtain ⟨y, hy, rfl⟩ := hj
      have hj2 : j < m.length := (List.getElem?_eq_some_iff.1 hy).1
      rw [add_addr, hc j hj2]
      simp [List.getD, hy]
    · intro v' w' ho' hg _ _
      exact fin v' w' ho' hg
/-- '[]byte{}'. -/
theorem own_empty (w : World) : Own (w.alloc (.cells #[] 5)) w.heap.size (.slice (some ⟨w.heap.size, 0, none⟩) 0 0) [] :=
  ⟨rfl, .inr ⟨w.heap.size, 0, #[], rfl, Nat.le_refl _, (MapKept.heap_alloc w _).1, Nat.le_refl _, by unfold maxLen; omega, rfl, rfl⟩⟩
theorem Own.below {w w' : World} {base : Nat} {v : Value} {l : List Int} (h : Own w base v l) (hb : Below w.heap.size w w') : Own w' base v l := owns_below h hb
theorem bytes_one (w : World) (y : Int) (hy : IsB y) : Bytes (w.alloc (.cells #[.int .u8 y] 5)) (some ⟨w.heap.size, 0, none⟩) [y] := fun i hi => by
  obtain rfl : i = 0 := by simpa using hi
  exact ⟨w.heap.size, 0, rfl, new_cell w _ _ _ 0 (by simp), hy⟩
theorem Mem.conv {w : World} {g N len cap : Nat} {f : Nat → Int} (h : Mem w g N f) (hl : len ≤ N) : (convert 36 9 (.slice (some ⟨g, 0, none⟩) len cap)).run Try.prog w = .ok (.string (strOfNums (at_ f 0 len))) w :=
  run_convert_bytes_arg w 36 5 Try.underlying36 Try.underlying5 g 0 len cap (at_ f 0 len) (at_len f 0 len) (fun i hi => by rw [at_get f 0 len i hi]; exact h.cell (by omega)) 9 Try.underlying9

theorem rch_some (f : Nat → Int) (base n : Nat) : ∀ (fu p : Nat) (L R : List Bf), L.length ≤ n → rch f base n fu p L = some R → L.length < R.length ∧ R.length ≤ n ∧ p < n
  | 0, _, _, _, _, h => by cases h
  | fu + 1, p, L, R, hL, h => by
    rw [rch] at h
    split at h
    · cases h
    · rename_i h1
      split at h
      · cases h
      · split at h
        · have := rch_some f base n fu _ _ R (by rw [List.length_append]; simp; omega) h
          rw [List.length_append] at this
          simp at this
          omega
        · simp only [Option.some.injEq] at h
          subst h
          rw [List.length_append]
          simp
          omega
theorem given_out (f : Nat → Int) (q : Qu) (u : Nat) (hd len : Int) (i : Nat) (h : i < q.base ∨ q.base + (8 + 26 * q.n) ≤ i) : given f q.pu q.n u hd len i = f i := by
  have hk := Nat.mod_lt u (show 0 < q.n from q.geo.n1)
  have e1 := q.geo.epu
  unfold given wr
  rw [if_neg (by omega), if_neg (by omega), if_neg (by omega)]
end Go.Proofs.Ytjnhcbompgmknaa
