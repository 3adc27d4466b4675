/- Rows of rows of bytes: what Add tells. -/
import Derived.Test.YtbfdkbdjipiliaaDoorYpE
namespace Go.Proofs.YtbfdkbdjipiliaaDoor
open Go.RowKit Go.Maps
set_option linter.unusedVariables false

/-- 'append' of several elements. -/
theorem RW.pushR (w : World) (st ty t : TypeId) (s by_ : Nat) (z : Value) (hu : Tryd.prog.underlying st = some (.slice t)) (hinfo : (Tryd.prog.info? t).map (fun i => (i.zero, i.size, i.bytes)) = some (some z, s, by_)) (hzc : z.cells.size = s) (hs : 0 < s) (hby : 0 < by_ ∧ by_ ≤ 160)
    (v : Value) (n : Nat) (X : List Value) (h : RW w t s v n X) (k : Nat) (E : List Value) (hE : E.length = k * s) (hone : ∀ u ∈ E, u.oneCell' = true) (hl : n + k ≤ 1000000) (a0 : Option Addr) (cc : Nat) (hg : ∀ j u, E[j]? = some u → ∃ b o, a0 = some ⟨b, o, none⟩ ∧ w.cell? ⟨b, o + j, none⟩ = some u) :
    ∃ a c w', (Builtin.append_ #[st, st] ty #[v, .slice a0 k cc]).run Tryd.prog w = .ok (.slice a (n + k) c) w' ∧ RW w' t s (.slice a (n + k) c) (n + k) (X ++ E) ∧ Mods (fun b => blkV v = some b) w w' ∧ (blkV (.slice a (n + k) c) = blkV v ∨ ∃ x, w.heap.size ≤ x ∧ blkV (.slice a (n + k) c) = some x) := by
  obtain ⟨i0, hi, hz0, hz1, hz2⟩ : ∃ i, Tryd.prog.info? t = some i ∧ i.zero = some z ∧ i.size = s ∧ i.bytes = by_ := by
    cases hi : Tryd.prog.info? t with
    | none => rw [hi] at hinfo; simp at hinfo
    | some i => rw [hi] at hinfo; simp at hinfo; exact ⟨i, rfl, hinfo.1, hinfo.2.1, hinfo.2.2⟩
  have hX := h.1
  by_cases hk : 0 < k
  · have hks : 0 < k * s := Nat.mul_pos hk hs
    obtain ⟨b0, o0, rfl, _⟩ := hg 0 (E[0]'(by omega)) (by simp [show 0 < E.length by omega])
    have hg' : ∀ j u, E[j]? = some u → w.cell? ((⟨b0, o0, none⟩ : Addr).add j) = some u := fun j u hj => by
      obtain ⟨b1, o1, e, hc⟩ := hg j u hj
      simp only [Option.some.injEq, Addr.mk.injEq, and_true] at e
      obtain ⟨rfl, rfl⟩ := e
      rw [add_addr]
      exact hc
    have e1 : (n + k) * s = n * s + k * s := Nat.add_mul _ _ _
    have e7 : (n + k) * by_ ≤ 1000000 * 160 := Nat.mul_le_mul hl hby.2
    have fromOwn : ∀ (v' : Value) (w' : World), w'.ownsRow w.heap.size t s v' (n + k) (X ++ E) → ∃ a c, v' = .slice a (n + k) c ∧ RW w' t s v' (n + k) (X ++ E) ∧ ∃ x, w.heap.size ≤ x ∧ blkV v' = some x := fun v' w' ho => by
      have hR := RW.of_owns ho
      rcases ho.2 with ⟨_, h0⟩ | ⟨g', cap', cur', rfl, hge, hh', _⟩
      · omega
      · exact ⟨_, _, rfl, hR, g', hge, rfl⟩
    rcases h.2 with ⟨rfl, rfl⟩ | ⟨b, off, cap, cur, rfl, hh, h1, hm, h2, h3⟩
    · obtain rfl : X = [] := List.eq_nil_of_length_eq_zero (by rw [hX]; simp)
      obtain ⟨v', w', hr, ho, hgr, _, hob⟩ := run_append_own_at (P := Tryd.prog) w w.heap.size st ty t i0 _ s by_ hu hi hz0 hz1 hz2 hzc (by omega) (.slice none 0 0) 0 [] ⟨by simp, .inl ⟨rfl, rfl⟩⟩ ⟨b0, o0, none⟩ k cc E hE hg' hone (by unfold maxLen; omega) (by omega) (Nat.le_refl _)
      obtain ⟨a, c, rfl, hp, x, hx1, hx2⟩ := fromOwn v' w' (by simpa using ho)
      exact ⟨a, c, w', hr, hp, ⟨hgr.os, hgr.tape, hgr.output, hgr.size, fun y hy hn => hgr.block y hy (by simp [Value.ownBlock])⟩, .inr ⟨x, hx1, hx2⟩⟩
    · have e3 : n * s ≤ cap * s := Nat.mul_le_mul_right _ h1
      by_cases hroom : n + k ≤ cap
      · have e4 : (n + k) * s ≤ cap * s := Nat.mul_le_mul_right _ hroom
        have hr := run_append_room_cells (P := Tryd.prog) w st ty t i0 hu hi b off n cap ⟨b0, o0, none⟩ k cc E (by rw [hz1, hE]) hg' hone hroom (fun j hj => by
          rw [hz1]
          rw [hE] at hj
          have hlt : off + n * s + j < cur.size := by omega
          have := cell_of hh (i := off + n * s + j) (v := cur[off + n * s + j]) (by simp [hlt])
          rw [this]; rfl) (fun j hj => froz_of hh _)
        rw [hz1] at hr
        have hb' := setCells_heap (g := b) (t := t) E w cur (off + n * s) hh
        refine ⟨_, _, _, hr, ⟨by rw [List.length_append, hX, hE, e1], .inr ⟨b, off, cap, _, rfl, hb', hroom, hm, by rw [putA_size]; exact h2, fun j hj => ?_⟩⟩, (setCells_mods b E w _).weak (fun y hy => by subst hy; exact .inl rfl), .inl rfl⟩
        rw [putA_get _ _ _ (by rw [hE]; omega), hE]
        by_cases hj2 : j < n * s
        · rw [if_neg (by omega), h3 j hj2, List.getElem?_append_left (by rw [hX]; exact hj2)]
        · rw [if_pos (by omega), List.getElem?_append_right (by rw [hX]; omega), hX]
          rw [show off + j - (off + n * s) = j - n * s by omega]
      · have hold : ∀ j u, X[j]? = some u → w.cell? ((⟨b, off, none⟩ : Addr).add j) = some u := fun j u hj => by
          have hj2 : j < n * s := by have := (List.getElem?_eq_some_iff.1 hj).1; rw [hX] at this; exact this
          rw [add_addr]
          exact cell_of hh (by rw [h3 j hj2]; exact hj)
        obtain ⟨v', w', hr, ho, hgr⟩ := run_append_arg_grows (P := Tryd.prog) w st ty t i0 _ s by_ hu hi hz0 hz1 hz2 hzc (by omega) ⟨b, off, none⟩ n cap X hX hold ⟨b0, o0, none⟩ k cc E hE hg' (by omega) (by unfold maxLen; omega) (by omega)
        obtain ⟨a, c, rfl, hp, x, hx1, hx2⟩ := fromOwn v' w' ho
        exact ⟨a, c, w', hr, hp, ⟨hgr.os, hgr.tape, hgr.output, hgr.size, fun y hy hn => hgr.block y hy (by simp)⟩, .inr ⟨x, hx1, hx2⟩⟩
  · obtain rfl : k = 0 := by omega
    obtain rfl : E = [] := List.eq_nil_of_length_eq_zero (by omega)
    have hs0 : Src Tryd.prog i0.size st (.slice a0 0 cc) 0 [] w := by
      cases a0 with
      | none => exact Src.ofNil _ hu cc
      | some ad => exact Src.ofSlice _ hu ad 0 cc [] (by simp) (fun j u hj => by simp at hj) (fun u hu => by simp at hu)
    have hv : ∃ a c, v = .slice a n c ∧ n ≤ c := by
      rcases h.2 with ⟨rfl, rfl⟩ | ⟨b, off, cap, cur, rfl, _, h1, _⟩
      · exact ⟨_, _, rfl, Nat.le_refl _⟩
      · exact ⟨_, _, rfl, h1⟩
    obtain ⟨a, c, rfl, hnc⟩ := hv
    refine ⟨a, c, w, ?_, by simpa using h, Mods.refl _ _, .inl rfl⟩
    exact run_append_nothing _ st st ty t i0 hu hi a n c hnc _ hs0
/-- A row that is told: its bytes, where they lie. -/
structure Ow where
  d : List Int
  a : Option Addr
  c : Nat
instance : Inhabited Ow := ⟨⟨[], none, 0⟩⟩
def owV (x : Ow) : Value := .slice x.a x.d.length x.c
theorem infoByt : (Tryd.prog.info? 27).map (fun i => (i.zero, i.size, i.bytes)) = some (some (.slice none 0 0), 1, 24) := by kernel_rfl
/-- Rows of bytes in a row: all in blocks of T. -/
def OutL (w : World) (T : Nat → Prop) (v : Value) (L : List (List Int)) : Prop :=
  ∃ M : List Ow, M.map Ow.d = L ∧ RW w 27 1 v M.length (M.map owV) ∧ (∀ b, blkV v = some b → T b) ∧ ∀ x ∈ M, By w T x.a x.d ∧ x.d.length ≤ x.c
theorem OutL.nil (w : World) (T : Nat → Prop) : OutL w T (.slice none 0 0) [] := ⟨[], rfl, RW.nil _ _ _, fun b hb => by simp [blkV] at hb, fun x hx => by simp at hx⟩
section
variable {w w' : World} {T T' : Nat → Prop} {v : Value} {L : List (List Int)}
theorem OutL.keep (h : OutL w T v L) (hk : ∀ b, T b → b < w.heap.size → w'.heap[b]? = w.heap[b]?) : OutL w' T v L := by
  obtain ⟨M, h1, h2, h3, h4⟩ := h
  exact ⟨M, h1, h2.keep (fun b hb => hk b (h3 b hb) (h2.lt hb)), h3, fun x hx => ⟨(h4 x hx).1.keep (fun b hb hl => hk b hb hl), (h4 x hx).2⟩⟩
theorem OutL.later (h : OutL w T v L) (hb : Below w.heap.size w w') : OutL w' T v L := h.keep (fun b _ hl => hb.block b hl)
theorem OutL.weak (h : OutL w T v L) (hk : ∀ b, T b → T' b) : OutL w T' v L := by
  obtain ⟨M, h1, h2, h3, h4⟩ := h
  exact ⟨M, h1, h2, fun b hb => hk b (h3 b hb), fun x hx => ⟨(h4 x hx).1.weak (fun b hb _ => hk b hb), (h4 x hx).2⟩⟩
theorem OutL.len (h : OutL w T v L) : ∃ a c, v = .slice a L.length c := by
  obtain ⟨M, h1, h2, h3, h4⟩ := h
  rw [← h1, List.length_map]
  exact h2.shape
/-- One more, or none. -/
theorem OutL.push (h : OutL w T v L) (hl : L.length ≤ 900000) (x : Ow) (hx : By w T x.a x.d) (hc : x.d.length ≤ x.c) (g : Nat) (hg : w.heap[g]? = some (.cells #[owV x] 27 (0, 0))) :
    ∃ a c w', (Builtin.append_ #[22, 22] 22 #[v, .slice (some ⟨g, 0, none⟩) 1 1]).run Tryd.prog w = .ok (.slice a (L.length + 1) c) w' ∧ OutL w' (fun b => T b ∨ blkV (.slice a (L.length + 1) c) = some b) (.slice a (L.length + 1) c) (L ++ [x.d]) ∧ Mods (fun b => blkV v = some b) w w' ∧ (blkV (.slice a (L.length + 1) c) = blkV v ∨ ∃ y, w.heap.size ≤ y ∧ blkV (.slice a (L.length + 1) c) = some y) := by
  obtain ⟨M, h1, h2, h3, h4⟩ := h
  have hML : M.length = L.length := by rw [← h1, List.length_map]
  obtain ⟨a, c, w', hr, hw, hm, hb⟩ := RW.pushR w 22 22 27 1 24 _ Tryd.underlying22 infoByt rfl (by decide) (by decide) v M.length (M.map owV) h2 1 [owV x] rfl (by simp [owV, Value.oneCell']) (by omega) (some ⟨g, 0, none⟩) 1 (fun j u hj => by
    have hj2 : j < 1 := (List.getElem?_eq_some_iff.1 hj).1
    obtain rfl : j = 0 := by omega
    exact ⟨g, 0, rfl, cell_of hg (by simpa using hj)⟩)
  rw [hML] at hr hw hb
  have hk : ∀ a l, By w T a l → By w' T a l := fun a l hy => ⟨hy.1, fun h0 => by
    obtain ⟨b, off, cur, fr, e, hT, hh, hcc⟩ := hy.2 h0
    have hne : ¬ blkV v = some b := fun e2 => by
      obtain ⟨cur2, hh2⟩ := h2.kind e2
      rw [hh] at hh2
      simp only [Option.some.injEq, Obj.cells.injEq] at hh2
      exact absurd hh2.2.1 (by decide)
    exact ⟨b, off, cur, fr, e, hT, (hm.block b (Array.getElem?_eq_some_iff.1 hh).1 hne).trans hh, hcc⟩⟩
  have e1 : (M ++ [x]).length = L.length + 1 := by simp [hML]
  refine ⟨a, c, w', hr, ⟨M ++ [x], by simp [h1], by rw [e1, List.map_append]; exact hw, fun b hb2 => .inr hb2, fun y hy => ?_⟩, hm, hb⟩
  rcases List.mem_append.1 hy with h5 | h5
  · exact ⟨(hk _ _ (h4 y h5).1).weak (fun b hb2 _ => .inl hb2), (h4 y h5).2⟩
  · simp only [List.mem_singleton] at h5
    subst h5
    exact ⟨(hk _ _ hx).weak (fun b hb2 _ => .inl hb2), hc⟩
theorem OutL.push0 (h : OutL w T v L) (hl : L.length ≤ 900000) :
    ∃ a c w', (Builtin.append_ #[22, 22] 22 #[v, .slice none 0 0]).run Tryd.prog w = .ok (.slice a L.length c) w' ∧ OutL w' (fun b => T b ∨ blkV (.slice a L.length c) = some b) (.slice a L.length c) L ∧ Mods (fun b => blkV v = some b) w w' ∧ (blkV (.slice a L.length c) = blkV v ∨ ∃ y, w.heap.size ≤ y ∧ blkV (.slice a L.length c) = some y) := by
  obtain ⟨M, h1, h2, h3, h4⟩ := h
  have hML : M.length = L.length := by rw [← h1, List.length_map]
  obtain ⟨a, c, w', hr, hw, hm, hb⟩ := RW.pushR w 22 22 27 1 24 _ Tryd.underlying22 infoByt rfl (by decide) (by decide) v M.length (M.map owV) h2 0 [] rfl (by simp) (by omega) none 0 (fun j u hj => by simp at hj)
  rw [hML] at hr hw hb
  rw [Nat.add_zero] at hr hw hb
  have hk : ∀ a l, By w T a l → By w' T a l := fun a l hy => ⟨hy.1, fun h0 => by
    obtain ⟨b, off, cur, fr, e, hT, hh, hcc⟩ := hy.2 h0
    have hne : ¬ blkV v = some b := fun e2 => by
      obtain ⟨cur2, hh2⟩ := h2.kind e2
      rw [hh] at hh2
      simp only [Option.some.injEq, Obj.cells.injEq] at hh2
      exact absurd hh2.2.1 (by decide)
    exact ⟨b, off, cur, fr, e, hT, (hm.block b (Array.getElem?_eq_some_iff.1 hh).1 hne).trans hh, hcc⟩⟩
  rw [List.append_nil] at hw
  exact ⟨a, c, w', hr, ⟨M, h1, by rw [hML]; exact hw, fun b hb2 => .inr hb2, fun y hy => ⟨(hk _ _ (h4 y hy).1).weak (fun b hb2 _ => .inl hb2), (h4 y hy).2⟩⟩, hm, hb⟩
end
theorem ruR_len (l : List Int) : ∀ s : Rc, (ruR s l).2.length ≤ l.length := by
  induction l with
  | nil => intro s; simp [ruR]
  | cons x l ih =>
    intro s
    have h1 := ih (stR s x).1
    have h2 : (stR s x).2.length ≤ 1 := by
      unfold stR
      split
      · simp
      · split
        · split
          · unfold clsR; split <;> simp
          · simp
        · split
          · simp
          · unfold hdR clsR
            split
            · simp
            · split
              · split <;> simp
              · simp
    simp only [ruR, List.length_append, List.length_cons]
    omega
end Go.Proofs.YtbfdkbdjipiliaaDoor
