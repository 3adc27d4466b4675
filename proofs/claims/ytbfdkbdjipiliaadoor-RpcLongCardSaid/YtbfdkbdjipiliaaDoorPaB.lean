/- CcB, PaB in one text. -/
import Derived.Test.YtbfdkbdjipiliaaDoorCcA
import Derived.Deep.RegionLaw
import Derived.Lib.SliceRun
import Derived.Lib.Walk
import Derived.LaidEqlPtr
import Derived.ArgAppend
/- Rows of pointers: slices.Index, slices.Delete; cells laid into a block. -/
namespace Go.Proofs.YtbfdkbdjipiliaaDoor
open Go.RowKit Go.Maps
set_option linter.unusedVariables false

abbrev pv (b : Nat) : Value := .pointer (some ⟨b, 0, none⟩)
/-- Pointers to structs are compared by their places. -/
theorem ptr_same {tp te : TypeId} {s : Nat} (hp : Tryd.prog.underlying tp = some (.pointer te)) (hi : (Tryd.prog.info? te).map (·.size) = some (s + 1)) (w : World) (b : Nat) : (binOp .eql tp (pv b) (pv b)).run Tryd.prog w = .ok (.bool true) w := by
  cases h : Tryd.prog.info? te with
  | none => rw [h] at hi; cases hi
  | some j => exact run_eql_ptr_same w _ hp h
theorem ptr_other {tp te : TypeId} {s : Nat} (hp : Tryd.prog.underlying tp = some (.pointer te)) (hi : (Tryd.prog.info? te).map (·.size) = some (s + 1)) {w : World} {a b : Nat} {ca cb : Array Value} {ta tb : TypeId} (hne : a ≠ b) (ha : w.heap[a]? = some (.cells ca ta (0, 0))) (hb : w.heap[b]? = some (.cells cb tb (0, 0))) :
    (binOp .eql tp (pv a) (pv b)).run Tryd.prog w = .ok (.bool false) w := by
  cases h : Tryd.prog.info? te with
  | none => rw [h] at hi; cases hi
  | some j =>
    rw [h] at hi
    simp at hi
    exact run_eql_ptr_other w hp h (by omega) (fun e => hne (by first | (simp at e) | (simpa using e))) ha hb

/-! ### cells laid into a block -/
def putA (cur : Array Value) : Nat → List Value → Array Value
  | _, [] => cur
  | o, x :: r => putA (cur.setIfInBounds o x) (o + 1) r
theorem putA_size : ∀ (vs : List Value) (cur : Array Value) (o : Nat), (putA cur o vs).size = cur.size
  | [], _, _ => rfl
  | x :: r, cur, o => by rw [putA, putA_size r]; simp
theorem putA_get : ∀ (vs : List Value) (cur : Array Value) (o : Nat), o + vs.length ≤ cur.size → ∀ j, (putA cur o vs)[j]? = if o ≤ j ∧ j < o + vs.length then vs[j - o]? else cur[j]?
  | [], cur, o, _, j => by rw [if_neg (by simp)]; rfl
  | x :: r, cur, o, h, j => by
    simp only [List.length_cons] at h ⊢
    rw [putA, putA_get r _ _ (by simp; omega)]
    by_cases e : o ≤ j ∧ j < o + (r.length + 1)
    · rw [if_pos e]
      by_cases e2 : j = o
      · subst e2
        rw [if_neg (by omega), Array.getElem?_setIfInBounds]
        simp
        omega
      · rw [if_pos (by omega), show j - o = (j - (o + 1)) + 1 by omega]
        simp
    · rw [if_neg e, if_neg (by omega), Array.getElem?_setIfInBounds, if_neg (by omega)]
theorem setCells_heap {g : Nat} {t : TypeId} : ∀ (vs : List Value) (w : World) (cur : Array Value) (o : Nat), w.heap[g]? = some (.cells cur t (0, 0)) → (w.setCells g o vs).heap[g]? = some (.cells (putA cur o vs) t (0, 0))
  | [], _, _, _, h => h
  | x :: r, w, cur, o, h => by
    show ((w.setCell ⟨g, o, none⟩ x).setCells g (o + 1) r).heap[g]? = _
    rw [setCells_heap r _ _ (o + 1) (setc h o x)]
    rfl
theorem setCells_mods (g : Nat) : ∀ (vs : List Value) (w : World) (o : Nat), Mods (fun b => b = g) w (w.setCells g o vs)
  | [], w, _ => Mods.refl _ w
  | x :: r, w, o => ((Mods.refl (fun b => b = g) w).setCell g o x rfl).tr (setCells_mods g r _ (o + 1))
/-- The block behind a row. -/
theorem owns_block {w : World} {base e g n cap : Nat} {xs : List Value} (h : w.ownsRow base e 1 (.slice (some ⟨g, 0, none⟩) n cap) n xs) : ∃ cur, w.heap[g]? = some (.cells cur e (0, 0)) ∧ n ≤ cap ∧ cap ≤ maxLen ∧ cur.size = cap ∧ (∀ j, j < n → cur[j]? = xs[j]?) ∧ xs.length = n := by
  have h1 := h.1
  rcases h.2 with ⟨e, _⟩ | ⟨g', cap', cur, e, _, hh, hc1, hc2, hcs, ht⟩
  · cases e
  · simp only [Value.slice.injEq, Option.some.injEq, Addr.mk.injEq] at e
    obtain ⟨⟨rfl, _⟩, _, rfl⟩ := e
    refine ⟨cur, hh, hc1, hc2, by omega, fun j hj => ?_, by omega⟩
    rw [← ht, List.getElem?_take, if_pos (by omega), Array.getElem?_toList]
theorem owns_of_block {w : World} {e g n cap : Nat} {xs : List Value} {cur : Array Value} (h : w.heap[g]? = some (.cells cur e (0, 0))) (h1 : n ≤ cap) (h2 : cap ≤ maxLen) (h3 : cur.size = cap) (h4 : ∀ j, j < n → cur[j]? = xs[j]?) (h5 : xs.length = n) : w.ownsRow 0 e 1 (.slice (some ⟨g, 0, none⟩) n cap) n xs := by
  refine ⟨by omega, .inr ⟨g, cap, cur, rfl, Nat.zero_le _, h, h1, h2, by omega, ?_⟩⟩
  apply List.ext_getElem?
  intro j
  rw [List.getElem?_take]
  by_cases hj : j < n
  · rw [if_pos (by omega), Array.getElem?_toList, h4 j hj]
  · rw [if_neg (by omega), List.getElem?_eq_none (by omega)]
end Go.Proofs.YtbfdkbdjipiliaaDoor

/- Rows of cells of any type and size that may be cut at their head and appended to. -/
namespace Go.Proofs.YtbfdkbdjipiliaaDoor
open Go.RowKit Go.Maps
set_option linter.unusedVariables false

/-- The block of a slice. -/
def blkV : Value → Option Nat
  | .slice (some a) _ _ => some a.block
  | _ => none
/-- A slice of n elements of type t, s cells each: its cells are X. -/
def RW (w : World) (t s : Nat) (v : Value) (n : Nat) (X : List Value) : Prop :=
  X.length = n * s ∧ ((v = .slice none 0 0 ∧ n = 0) ∨ ∃ b off cap cur, v = .slice (some ⟨b, off, none⟩) n cap ∧ w.heap[b]? = some (.cells cur t (0, 0)) ∧ n ≤ cap ∧ cap ≤ maxLen ∧ off + cap * s ≤ cur.size ∧ ∀ j, j < n * s → cur[off + j]? = X[j]?)
section
variable {w w' : World} {v : Value} {t s n : Nat} {X : List Value}
theorem RW.shape (h : RW w t s v n X) : ∃ a c, v = .slice a n c := by
  rcases h.2 with ⟨rfl, rfl⟩ | ⟨b, off, cap, cur, rfl, _⟩ <;> exact ⟨_, _, rfl⟩
theorem RW.nil (w : World) (t s : Nat) : RW w t s (.slice none 0 0) 0 [] := ⟨by simp, .inl ⟨rfl, rfl⟩⟩
theorem RW.lt (h : RW w t s v n X) {b : Nat} (hb : blkV v = some b) : b < w.heap.size := by
  rcases h.2 with ⟨rfl, rfl⟩ | ⟨b', off, cap, cur, rfl, hh, _⟩
  · simp [blkV] at hb
  · simp [blkV] at hb; subst hb; exact (Array.getElem?_eq_some_iff.1 hh).1
theorem RW.kind (h : RW w t s v n X) {b : Nat} (hb : blkV v = some b) : ∃ cur, w.heap[b]? = some (.cells cur t (0, 0)) := by
  rcases h.2 with ⟨rfl, rfl⟩ | ⟨b', off, cap, cur, rfl, hh, _⟩
  · simp [blkV] at hb
  · simp [blkV] at hb; subst hb; exact ⟨cur, hh⟩
theorem RW.keep (h : RW w t s v n X) (hk : ∀ b, blkV v = some b → w'.heap[b]? = w.heap[b]?) : RW w' t s v n X := by
  refine ⟨h.1, ?_⟩
  rcases h.2 with h | ⟨b, off, cap, cur, rfl, hh, r⟩
  · exact .inl h
  · exact .inr ⟨b, off, cap, cur, rfl, (hk b rfl).trans hh, r⟩
theorem RW.later (h : RW w t s v n X) (hb : Below w.heap.size w w') : RW w' t s v n X := h.keep (fun b hb2 => hb.block b (h.lt hb2))
/-- A cell of it. -/
theorem RW.at_ (h : RW w t s v n X) (hn : 0 < n) : ∃ b off cap, v = .slice (some ⟨b, off, none⟩) n cap ∧ n ≤ cap ∧ blkV v = some b ∧ (∀ j u, X[j]? = some u → w.cell? ⟨b, off + j, none⟩ = some u) ∧ ∀ j, w.frozen? ⟨b, j, none⟩ = false := by
  rcases h.2 with ⟨rfl, rfl⟩ | ⟨b, off, cap, cur, rfl, hh, h1, _, h2, h3⟩
  · simp at hn
  · refine ⟨b, off, cap, rfl, h1, rfl, fun j u hj => ?_, fun j => froz_of hh _⟩
    have hj2 : j < n * s := by have := (List.getElem?_eq_some_iff.1 hj).1; rw [h.1] at this; exact this
    exact cell_of hh (by rw [h3 j hj2]; exact hj)
theorem RW.len (h : RW w t s v n X) : X.length = n * s := h.1
/-- One out of a row that a call owns. -/
theorem RW.of_owns {base : Nat} (h : w.ownsRow base t s v n X) : RW w t s v n X := by
  refine ⟨h.1, ?_⟩
  rcases h.2 with ⟨e, h0⟩ | ⟨g, cap, cur, rfl, _, hh, h1, h2, h3, h4⟩
  · exact .inl ⟨e, h0⟩
  · refine .inr ⟨g, 0, cap, cur, rfl, hh, h1, h2, by omega, fun j hj => ?_⟩
    have e1 : (cur.toList.take (n * s))[j]? = X[j]? := by rw [h4]
    rw [List.getElem?_take, if_pos hj, Array.getElem?_toList] at e1
    rw [Nat.zero_add, e1]
/-- Without its first elements. -/
theorem RW.drop {b off cap : Nat} (h : RW w t s (.slice (some ⟨b, off, none⟩) n cap) n X) (k : Nat) (hk : k < n) : RW w t s (.slice (some ⟨b, off + k * s, none⟩) (n - k) (cap - k)) (n - k) (X.drop (k * s)) := by
  have hl := h.1
  have e0 : (n - k) * s = n * s - k * s := Nat.sub_mul _ _ _
  rcases h.2 with ⟨e, _⟩ | ⟨b', off', cap', cur, e, hh, h1, hm, h2, h3⟩
  · simp at e
  · simp only [Value.slice.injEq, Option.some.injEq, Addr.mk.injEq, and_true, true_and] at e
    obtain ⟨⟨rfl, rfl⟩, rfl⟩ := e
    have e1 : (cap - k) * s = cap * s - k * s := Nat.sub_mul _ _ _
    have e2 : k * s ≤ n * s := Nat.mul_le_mul_right _ (by omega)
    have e3 : n * s ≤ cap * s := Nat.mul_le_mul_right _ h1
    refine ⟨by rw [List.length_drop, hl, e0], .inr ⟨b, off + k * s, cap - k, cur, rfl, hh, by omega, by omega, by omega, fun j hj => ?_⟩⟩
    rw [List.getElem?_drop, Nat.add_assoc]
    exact h3 _ (by omega)
end
/-- 'append' of one element. -/
theorem RW.push (w : World) (st ty t : TypeId) (s by_ : Nat) (z : Value) (hu : Tryd.prog.underlying st = some (.slice t)) (hinfo : (Tryd.prog.info? t).map (fun i => (i.zero, i.size, i.bytes)) = some (some z, s, by_)) (hzc : z.cells.size = s) (hs : 0 < s) (hby : 0 < by_ ∧ by_ ≤ 160)
    (v : Value) (n : Nat) (X : List Value) (h : RW w t s v n X) (E : List Value) (hE : E.length = s) (hone : ∀ u ∈ E, u.oneCell' = true) (hl : n ≤ 1000000) (ad : Addr) (cc : Nat) (hg : ∀ j u, E[j]? = some u → w.cell? (ad.add j) = some u) :
    ∃ a c w', (Builtin.append_ #[st, st] ty #[v, .slice (some ad) 1 cc]).run Tryd.prog w = .ok (.slice a (n + 1) c) w' ∧ RW w' t s (.slice a (n + 1) c) (n + 1) (X ++ E) ∧ Mods (fun b => blkV v = some b) w w' ∧ (blkV (.slice a (n + 1) c) = blkV v ∨ ∃ x, w.heap.size ≤ x ∧ blkV (.slice a (n + 1) c) = some x) := by
  obtain ⟨i0, hi, hz0, hz1, hz2⟩ : ∃ i, Tryd.prog.info? t = some i ∧ i.zero = some z ∧ i.size = s ∧ i.bytes = by_ := by
    cases hi : Tryd.prog.info? t with
    | none => rw [hi] at hinfo; simp at hinfo
    | some i => rw [hi] at hinfo; simp at hinfo; exact ⟨i, rfl, hinfo.1, hinfo.2.1, hinfo.2.2⟩
  have hX := h.1
  have e1 : (n + 1) * s = n * s + s := by rw [Nat.add_mul, Nat.one_mul]
  have e7 : (n + 1) * by_ ≤ 1000001 * 160 := Nat.mul_le_mul (by omega) hby.2
  have fromOwn : ∀ (v' : Value) (w' : World), w'.ownsRow w.heap.size t s v' (n + 1) (X ++ E) → ∃ a c, v' = .slice a (n + 1) c ∧ RW w' t s v' (n + 1) (X ++ E) ∧ ∃ x, w.heap.size ≤ x ∧ blkV v' = some x := fun v' w' ho => by
    have hR := RW.of_owns ho
    rcases ho.2 with ⟨_, h0⟩ | ⟨g', cap', cur', rfl, hge, hh', _⟩
    · omega
    · exact ⟨_, _, rfl, hR, g', hge, rfl⟩
  rcases h.2 with ⟨rfl, rfl⟩ | ⟨b, off, cap, cur, rfl, hh, h1, hm, h2, h3⟩
  · obtain rfl : X = [] := List.eq_nil_of_length_eq_zero (by rw [hX]; simp)
    obtain ⟨v', w', hr, ho, hgr, _, hob⟩ := run_append_own_at (P := Tryd.prog) w w.heap.size st ty t i0 _ s by_ hu hi hz0 hz1 hz2 hzc (by omega) (.slice none 0 0) 0 [] ⟨by simp, .inl ⟨rfl, rfl⟩⟩ ad 1 cc E (by rw [hE]; omega) hg hone (by unfold maxLen; omega) (by omega) (Nat.le_refl _)
    obtain ⟨a, c, rfl, hp, x, hx1, hx2⟩ := fromOwn v' w' (by simpa using ho)
    exact ⟨a, c, w', hr, hp, ⟨hgr.os, hgr.tape, hgr.output, hgr.size, fun y hy hn => hgr.block y hy (by simp [Value.ownBlock])⟩, .inr ⟨x, hx1, hx2⟩⟩
  · have e3 : n * s ≤ cap * s := Nat.mul_le_mul_right _ h1
    by_cases hroom : n + 1 ≤ cap
    · have e4 : (n + 1) * s ≤ cap * s := Nat.mul_le_mul_right _ hroom
      have hr := run_append_room_cells (P := Tryd.prog) w st ty t i0 hu hi b off n cap ad 1 cc E (by rw [hz1, hE]; omega) hg hone hroom (fun j hj => by
        rw [hz1]
        rw [hE] at hj
        have hlt : off + n * s + j < cur.size := by omega
        have := cell_of hh (i := off + n * s + j) (v := cur[off + n * s + j]) (by simp [hlt])
        rw [this]; rfl) (fun j hj => froz_of hh _)
      rw [hz1] at hr
      have hb' := setCells_heap (g := b) (t := t) E w cur (off + n * s) hh
      refine ⟨_, _, _, hr, ⟨by rw [List.length_append, hX, hE, e1], .inr ⟨b, off, cap, _, rfl, hb', hroom, hm, by rw [putA_size]; exact h2, fun j hj => ?_⟩⟩, (setCells_mods b E w _).weak (fun y hy => by subst hy; exact .inl rfl), .inl rfl⟩
      rw [putA_get _ _ _ (by rw [hE]; omega), hE]
      by_cases hj2 : j < n * s
      · rw [if_neg (by omega), h3 j hj2, List.getElem?_append_left (by rw [hX]; exact hj2)]
      · rw [if_pos (by omega), List.getElem?_append_right (by rw [hX]; omega), hX]
        rw [show off + j - (off + n * s) = j - n * s by omega]
    · have hold : ∀ j u, X[j]? = some u → w.cell? ((⟨b, off, none⟩ : Addr).add j) = some u := fun j u hj => by
        have hj2 : j < n * s := by have := (List.getElem?_eq_some_iff.1 hj).1; rw [hX] at this; exact this
        rw [add_addr]
        exact cell_of hh (by rw [h3 j hj2]; exact hj)
      obtain ⟨v', w', hr, ho, hgr⟩ := run_append_arg_grows (P := Tryd.prog) w st ty t i0 _ s by_ hu hi hz0 hz1 hz2 hzc (by omega) ⟨b, off, none⟩ n cap X hX hold ad 1 cc E (by rw [hE]; omega) hg (by omega) (by unfold maxLen; omega) (by omega)
      obtain ⟨a, c, rfl, hp, x, hx1, hx2⟩ := fromOwn v' w' ho
      exact ⟨a, c, w', hr, hp, ⟨hgr.os, hgr.tape, hgr.output, hgr.size, fun y hy hn => hgr.block y hy (by simp)⟩, .inr ⟨x, hx1, hx2⟩⟩
end Go.Proofs.YtbfdkbdjipiliaaDoor
