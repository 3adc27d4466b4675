/- The document's table in memory; rows that grow by several elements. -/
import Derived.Test.YthgmghfegaemkaaQdB
namespace Go.Proofs.Ythgmghfegaemkaa
open Go.RowKit Go.Maps
set_option linter.unusedVariables false

/-- 'append' of several elements. -/
theorem RW.pushs (w : World) (st ty t : TypeId) (s by_ : Nat) (z : Value) (hu : Try.prog.underlying st = some (.slice t)) (hinfo : (Try.prog.info? t).map (fun i => (i.zero, i.size, i.bytes)) = some (some z, s, by_)) (hzc : z.cells.size = s) (hs : 0 < s) (hby : 0 < by_ ∧ by_ ≤ 160)
    (v : Value) (n : Nat) (X : List Value) (h : RW w t s v n X) (k : Nat) (E : List Value) (hE : E.length = k * s) (hone : ∀ u ∈ E, u.oneCell' = true) (hl : n + k ≤ 1000000) (a0 : Option Addr) (cc : Nat) (hg : ∀ j u, E[j]? = some u → ∃ b o, a0 = some ⟨b, o, none⟩ ∧ w.cell? ⟨b, o + j, none⟩ = some u) :
    ∃ a c w', (Builtin.append_ #[st, st] ty #[v, .slice a0 k cc]).run Try.prog w = .ok (.slice a (n + k) c) w' ∧ RW w' t s (.slice a (n + k) c) (n + k) (X ++ E) ∧ Mods (fun b => blkV v = some b) w w' ∧ (blkV (.slice a (n + k) c) = blkV v ∨ ∃ x, w.heap.size ≤ x ∧ blkV (.slice a (n + k) c) = some x) := by
  obtain ⟨i0, hi, hz0, hz1, hz2⟩ : ∃ i, Try.prog.info? t = some i ∧ i.zero = some z ∧ i.size = s ∧ i.bytes = by_ := by
    cases hi : Try.prog.info? t with
    | none => rw [hi] at hinfo; simp at hinfo
    | some i => rw [hi] at hinfo; simp at hinfo; exact ⟨i, rfl, hinfo.1, hinfo.2.1, hinfo.2.2⟩
  have hX := h.1
  by_cases hk : 0 < k
  · have hks : 0 < k * s := Nat.mul_pos hk hs
    obtain ⟨b0, o0, rfl, _⟩ := hg 0 (E[0]'(by omega)) (by simp [show 0 < E.length by omega])
    have hg' : ∀ j u, E[j]? = some u → w.cell? ((⟨b0, o0, none⟩ : Addr).add j) = some u := fun j u hj => by
      obtain ⟨b1, o1, e, hc⟩ := hg j u hj
      simp only [Option.some.injEq, Addr.mk.injEq, and_true] at e
      obtain ⟨rfl, rfl⟩ := e
      rw [add_addr]
      exact hc
    have e1 : (n + k) * s = n * s + k * s := Nat.add_mul _ _ _
    have e7 : (n + k) * by_ ≤ 1000000 * 160 := Nat.mul_le_mul hl hby.2
    have fromOwn : ∀ (v' : Value) (w' : World), w'.ownsRow w.heap.size t s v' (n + k) (X ++ E) → ∃ a c, v' = .slice a (n + k) c ∧ RW w' t s v' (n + k) (X ++ E) ∧ ∃ x, w.heap.size ≤ x ∧ blkV v' = some x := fun v' w' ho => by
      have hR := RW.of_owns ho
      rcases ho.2 with ⟨_, h0⟩ | ⟨g', cap', cur', rfl, hge, hh', _⟩
      · omega
      · exact ⟨_, _, rfl, hR, g', hge, rfl⟩
    rcases h.2 with ⟨rfl, rfl⟩ | ⟨b, off, cap, cur, rfl, hh, h1, hm, h2, h3⟩
    · obtain rfl : X = [] := List.eq_nil_of_length_eq_zero (by rw [hX]; simp)
      obtain ⟨v', w', hr, ho, hgr, _, hob⟩ := run_append_own_at (P := Try.prog) w w.heap.size st ty t i0 _ s by_ hu hi hz0 hz1 hz2 hzc (by omega) (.slice none 0 0) 0 [] ⟨by simp, .inl ⟨rfl, rfl⟩⟩ ⟨b0, o0, none⟩ k cc E hE hg' hone (by unfold maxLen; omega) (by omega) (Nat.le_refl _)
      obtain ⟨a, c, rfl, hp, x, hx1, hx2⟩ := fromOwn v' w' (by simpa using ho)
      exact ⟨a, c, w', hr, hp, ⟨hgr.os, hgr.tape, hgr.output, hgr.size, fun y hy hn => hgr.block y hy (by simp [Value.ownBlock])⟩, .inr ⟨x, hx1, hx2⟩⟩
    · have e3 : n * s ≤ cap * s := Nat.mul_le_mul_right _ h1
      by_cases hroom : n + k ≤ cap
      · have e4 : (n + k) * s ≤ cap * s := Nat.mul_le_mul_right _ hroom
        have hr := run_append_room_cells (P := Try.prog) w st ty t i0 hu hi b off n cap ⟨b0, o0, none⟩ k cc E (by rw [hz1, hE]) hg' hone hroom (fun j hj => by
          rw [hz1]
          rw [hE] at hj
          have hlt : off + n * s + j < cur.size := by omega
          have := cell_of hh (i := off + n * s + j) (v := cur[off + n * s + j]) (by simp [hlt])
          rw [this]; rfl) (fun j hj => froz_of hh _)
        rw [hz1] at hr
        have hb' := setCells_heap (g := b) (t := t) E w cur (off + n * s) hh
        refine ⟨_, _, _, hr, ⟨by rw [List.length_append, hX, hE, e1], .inr ⟨b, off, cap, _, rfl, hb', hroom, hm, by rw [putA_size]; exact h2, fun j hj => ?_⟩⟩, (setCells_mods b E w _).weak (fun y hy => by subst hy; exact .inl rfl), .inl rfl⟩
        rw [putA_get _ _ _ (by rw [hE]; omega), hE]
        by_cases hj2 : j < n * s
        · rw [if_neg (by omega), h3 j hj2, List.getElem?_append_left (by rw [hX]; exact hj2)]
        · rw [if_pos (by omega), List.getElem?_append_right (by rw [hX]; omega), hX]
          rw [show off + j - (off + n * s) = j - n * s by omega]
      · have hold : ∀ j u, X[j]? = some u → w.cell? ((⟨b, off, none⟩ : Addr).add j) = some u := fun j u hj => by
          have hj2 : j < n * s := by have := (List.getElem?_eq_some_iff.1 hj).1; rw [hX] at this; exact this
          rw [add_addr]
          exact cell_of hh (by rw [h3 j hj2]; exact hj)
        obtain ⟨v', w', hr, ho, hgr⟩ := run_append_arg_grows (P := Try.prog) w st ty t i0 _ s by_ hu hi hz0 hz1 hz2 hzc (by omega) ⟨b, off, none⟩ n cap X hX hold ⟨b0, o0, none⟩ k cc E hE hg' (by omega) (by unfold maxLen; omega) (by omega)
        obtain ⟨a, c, rfl, hp, x, hx1, hx2⟩ := fromOwn v' w' ho
        exact ⟨a, c, w', hr, hp, ⟨hgr.os, hgr.tape, hgr.output, hgr.size, fun y hy hn => hgr.block y hy (by simp)⟩, .inr ⟨x, hx1, hx2⟩⟩
  · obtain rfl : k = 0 := by omega
    obtain rfl : E = [] := List.eq_nil_of_length_eq_zero (by omega)
    have hs0 : Src Try.prog i0.size st (.slice a0 0 cc) 0 [] w := by
      cases a0 with
      | none => exact Src.ofNil _ hu cc
      | some ad => exact Src.ofSlice _ hu ad 0 cc [] (by simp) (fun j u hj => by simp at hj) (fun u hu => by simp at hu)
    have hv : ∃ a c, v = .slice a n c ∧ n ≤ c := by
      rcases h.2 with ⟨rfl, rfl⟩ | ⟨b, off, cap, cur, rfl, _, h1, _⟩
      · exact ⟨_, _, rfl, Nat.le_refl _⟩
      · exact ⟨_, _, rfl, h1⟩
    obtain ⟨a, c, rfl, hnc⟩ := hv
    refine ⟨a, c, w, ?_, by simpa using h, Mods.refl _ _, .inl rfl⟩
    exact run_append_nothing _ st st ty t i0 hu hi a n c hnc _ hs0
def intOfD : Value → Int
  | .int _ x => x
  | _ => 0
/-! ### the document's table -/
abbrev De := Ky × Option (List Int) × Value
abbrev dC (e : De) : List Value := [.int .u32 e.1.ip, .int .i64 e.1.port, .int .u32 e.1.xid, .int .u32 e.1.proc, .int .u32 e.1.sum, .bool e.2.1.isSome, e.2.2]
abbrev rowD (E : List De) : List Value := E.flatMap dC
def toT (E : List De) : Tl := E.map fun e => (e.1, e.2.1)
def RepV (w : World) (T : Nat → Prop) : Option (List Int) → Value → Prop
  | none, v => v = .slice none 0 0
  | some l, v => ∃ a c, v = .slice a l.length c ∧ By w T a l
theorem RepV.keep {w w' : World} {T T' : Nat → Prop} {o : Option (List Int)} {v : Value} (h : RepV w T o v) (hk : ∀ b, T b → b < w.heap.size → w'.heap[b]? = w.heap[b]?) (hs : ∀ b, T b → T' b) : RepV w' T' o v := by
  cases o with
  | none => exact h
  | some l =>
    obtain ⟨a, c, e, hb⟩ := h
    exact ⟨a, c, e, (hb.keep hk).weak (fun b hb _ => hs b hb)⟩
theorem RepV.off {w w' : World} {T T' : Nat → Prop} {o : Option (List Int)} {v : Value} (h : RepV w T o v) {g : Nat} (hg : ∃ cur t fr, w.heap[g]? = some (.cells cur t fr) ∧ t ≠ 5) (hm : Mods (fun b => b = g) w w') (hs : ∀ b, T b → T' b) : RepV w' T' o v := by
  cases o with
  | none => exact h
  | some l =>
    obtain ⟨a, c, e, hb⟩ := h
    refine ⟨a, c, e, ⟨hb.1, fun hp => ?_⟩⟩
    obtain ⟨b, off, cur, fr, ha, hsb, hh, hcc⟩ := hb.2 hp
    refine ⟨b, off, cur, fr, ha, hs b hsb, (hm.block b (Array.getElem?_eq_some_iff.1 hh).1 (fun e2 => ?_)).trans hh, hcc⟩
    subst e2
    obtain ⟨cur', t, fr', h1, h2⟩ := hg
    rw [h1] at hh
    simp only [Option.some.injEq, Obj.cells.injEq] at hh
    exact h2 hh.2.1
theorem RepV.one {w : World} {T : Nat → Prop} {o : Option (List Int)} {v : Value} (h : RepV w T o v) : v.oneCell' = true := by
  cases o with
  | none => rw [show v = .slice none 0 0 from h]; rfl
  | some l => obtain ⟨a, c, rfl, _⟩ := h; rfl
theorem RepV.got {w : World} {T : Nat → Prop} {o : Option (List Int)} {v : Value} (h : RepV w T o v) : ∃ a c, v = .slice a (o.getD []).length c ∧ By w T a (o.getD []) := by
  cases o with
  | none => exact ⟨none, 0, h, By.nil _ _ _⟩
  | some l => exact h
theorem rowD_len (E : List De) : (rowD E).length = E.length * 7 := by
  induction E with
  | nil => rfl
  | cons e r ih => rw [rowD, List.flatMap_cons, List.length_append, ih]; simp; omega
theorem rowD_at {E : List De} {i : Nat} (hi : i < E.length) (j : Nat) (u : Value) (h : (dC E[i])[j]? = some u) : (rowD E)[i * 7 + j]? = some u := by
  induction E generalizing i with
  | nil => simp at hi
  | cons e r ih =>
    have h1 : rowD (e :: r) = dC e ++ rowD r := rfl
    have h3 : (dC e).length = 7 := rfl
    have hj : j < 7 := by have := (List.getElem?_eq_some_iff.1 h).1; simpa [dC] using this
    cases i with
    | zero => rw [h1, List.getElem?_append_left (by rw [h3]; omega)]; simpa using h
    | succ i =>
      simp only [List.length_cons] at hi
      rw [h1, List.getElem?_append_right (by rw [h3]; omega), h3, show (i + 1) * 7 + j - 7 = i * 7 + j by omega]
      exact ih (by omega) h
theorem rowD_app (E F : List De) : rowD (E ++ F) = rowD E ++ rowD F := by simp [rowD]
theorem rowD_take (E : List De) (i : Nat) : (rowD E).take (i * 7) = rowD (E.take i) := by
  induction E generalizing i with
  | nil => simp
  | cons e r ih =>
    cases i with
    | zero => simp
    | succ i =>
      have h1 : rowD (e :: r) = dC e ++ rowD r := rfl
      have h3 : (dC e).length = 7 := rfl
      rw [h1, List.take_append, h3, List.take_of_length_le (by rw [h3]; omega), show (i + 1) * 7 - 7 = i * 7 by omega, ih]
      rfl
theorem rowD_drop (E : List De) (i : Nat) : (rowD E).drop (i * 7) = rowD (E.drop i) := by
  induction E generalizing i with
  | nil => simp
  | cons e r ih =>
    cases i with
    | zero => simp
    | succ i =>
      have h1 : rowD (e :: r) = dC e ++ rowD r := rfl
      have h3 : (dC e).length = 7 := rfl
      rw [h1, List.drop_append, h3, List.drop_eq_nil_of_le (by rw [h3]; omega), List.nil_append, show (i + 1) * 7 - 7 = i * 7 by omega, ih]
      rfl
structure DbX (w : World) (q : Nat) (T : Nat → Prop) (n : Nat) (E : List De) (v : Value) : Prop where
  box : w.heap[q]? = some (.cells #[.int .i64 n, v] 48 (0, 0))
  row : RW w 50 7 v E.length (rowD E)
  rep : ∀ e ∈ E, RepV w T e.2.1 e.2.2
  nd : ((toT E).map (·.1)).Nodup
  sq : T q
  so : ∀ b, blkV v = some b → T b
  slt : ∀ b, T b → b < w.heap.size
def DbAt (w : World) (q : Nat) (T : Nat → Prop) (n : Nat) (L : Tl) : Prop := ∃ E v, toT E = L ∧ DbX w q T n E v
section
variable {w w' : World} {q : Nat} {T T' : Nat → Prop} {n : Nat} {E : List De} {v : Value} {L : Tl}
theorem DbX.keep (h : DbX w q T n E v) (hk : ∀ b, T b → w'.heap[b]? = w.heap[b]?) (hs : w.heap.size ≤ w'.heap.size) : DbX w' q T n E v :=
  ⟨(hk q h.sq).trans h.box, h.row.keep (fun b hb => hk b (h.so b hb)), fun e he => (h.rep e he).keep (fun b hb _ => hk b hb) (fun _ h => h), h.nd, h.sq, h.so, fun b hb => Nat.lt_of_lt_of_le (h.slt b hb) hs⟩
theorem DbX.later (h : DbX w q T n E v) (hb : Below w.heap.size w w') : DbX w' q T n E v := h.keep (fun b hb2 => hb.block b (h.slt b hb2)) hb.size
theorem DbAt.later (h : DbAt w q T n L) (hb : Below w.heap.size w w') : DbAt w' q T n L := let ⟨E, v, e, h1⟩ := h; ⟨E, v, e, h1.later hb⟩
theorem DbAt.keep (h : DbAt w q T n L) (hk : ∀ b, T b → w'.heap[b]? = w.heap[b]?) (hs : w.heap.size ≤ w'.heap.size) : DbAt w' q T n L := let ⟨E, v, e, h1⟩ := h; ⟨E, v, e, h1.keep hk hs⟩
theorem DbX.noq (h : DbX w q T n E v) {b : Nat} (hb : blkV v = some b) : b ≠ q := fun e => by
  obtain ⟨cur, hh⟩ := h.row.kind hb
  rw [e, h.box] at hh
  simp only [Option.some.injEq, Obj.cells.injEq] at hh
  exact absurd hh.2.1 (by decide)
/-- The cells of an entry. -/
theorem DbX.cells (h : DbX w q T n E v) {m : Nat} (hm : E.length = m) (h0 : 0 < m) : ∃ b off cap, v = .slice (some ⟨b, off, none⟩) m cap ∧ m ≤ cap ∧ (∀ i (hi : i < m) j u, (dC (E[i]'(by omega)))[j]? = some u → w.cell? ⟨b, off + i * 7 + j, none⟩ = some u) ∧ ∀ j, w.frozen? ⟨b, j, none⟩ = false := by
  have hr := h.row
  rw [hm] at hr
  obtain ⟨b, off, cap, e, h1, _, h2, h3⟩ := hr.at_ h0
  exact ⟨b, off, cap, e, h1, fun i hi j u hu => by rw [Nat.add_assoc]; exact h2 _ u (rowD_at (by omega) j u hu), h3⟩
end
theorem toT_len (E : List De) : (toT E).length = E.length := by simp [toT]
theorem toT_at {E : List De} {i : Nat} (hi : i < E.length) : (toT E)[i]'(by rw [toT_len]; exact hi) = (E[i].1, E[i].2.1) := by simp [toT]
theorem infoD : (Try.prog.info? 50).map (fun i => (i.zero, i.size, i.bytes)) = some (some (.agg #[.int .u32 0, .int .i64 0, .int .u32 0, .int .u32 0, .int .u32 0, .bool false, .slice none 0 0]), 7, 64) := by kernel_rfl
end Go.Proofs.Ythgmghfegaemkaa
