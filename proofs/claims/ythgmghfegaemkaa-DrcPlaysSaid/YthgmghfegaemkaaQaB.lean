/- A table of calls: pure, and in memory. -/
import Derived.Test.YthgmghfegaemkaaQaC
import Derived.Test.YthgmghfegaemkaaEcD
namespace Go.Proofs.Ythgmghfegaemkaa
open Go.RowKit Go.Maps
set_option linter.unusedVariables false

/-- What is known, in the order in which it began; a call that runs has no reply. -/
abbrev Tl := List (Ky × Option (List Int))
def fndT (L : Tl) (k : Ky) : Option (Option (List Int)) := (L.find? (fun e => decide (e.1 = k))).map (·.2)
def dIx (L : Tl) : Option Nat := L.findIdx? (fun e => e.2.isSome)
/-- What stays where one more is to be known; none, if there is no room. -/
def rmT (n : Nat) (L : Tl) : Option Tl := if L.length < n then some L else (dIx L).map (fun i => L.eraseIdx i)
def runT (L : Tl) (k : Ky) : Tl := L ++ [(k, none)]
def doneT (L : Tl) (k : Ky) (r : List Int) : Tl := L.map (fun e => if e.1 = k then (k, some r) else e)
/-- What Begin makes of a table. -/
def beL (n : Nat) (L : Tl) (k : Ky) : Tl := if (fndT L k).isSome then L else ((rmT n L).map (fun M => runT M k)).getD L
def beC (n : Nat) (L : Tl) (k : Ky) : Int := match fndT L k with
  | some (some l) => 3
  | some none => 2
  | none => if (rmT n L).isSome then 1 else 2
def beR (L : Tl) (k : Ky) : List Int := ((fndT L k).getD none).getD []
def enL (L : Tl) (k : Ky) (r : List Int) : Tl := if fndT L k = some none then doneT L k r else L
def enC (L : Tl) (k : Ky) : Int := if fndT L k = some none then 0 else 2

theorem fndT_none {L : Tl} {k : Ky} : fndT L k = none ↔ ∀ e ∈ L, e.1 ≠ k := by
  unfold fndT; simp [List.find?_eq_none]
theorem fndT_cons (e : Ky × Option (List Int)) (L : Tl) (k : Ky) : fndT (e :: L) k = if e.1 = k then some e.2 else fndT L k := by
  unfold fndT
  rw [List.find?_cons]
  by_cases h : e.1 = k <;> simp [h]
theorem fndT_at {L : Tl} (h : (L.map (·.1)).Nodup) {i : Nat} (hi : i < L.length) : fndT L L[i].1 = some L[i].2 := by
  induction L generalizing i with
  | nil => simp at hi
  | cons e r ih =>
    rw [fndT_cons]
    rw [List.map_cons, List.nodup_cons] at h
    cases i with
    | zero => simp
    | succ i =>
      simp only [List.getElem_cons_succ]
      simp only [List.length_cons] at hi
      rw [if_neg (fun e2 => h.1 (by rw [e2]; exact List.mem_map.2 ⟨_, List.getElem_mem (by omega), rfl⟩)), ih h.2]
theorem fndT_erase {L : Tl} (h : (L.map (·.1)).Nodup) {i : Nat} (hi : i < L.length) (k : Ky) : fndT (L.eraseIdx i) k = if k = L[i].1 then none else fndT L k := by
  induction L generalizing i with
  | nil => simp at hi
  | cons e r ih =>
    rw [List.map_cons, List.nodup_cons] at h
    cases i with
    | zero =>
      simp only [List.eraseIdx_cons_zero, List.getElem_cons_zero]
      by_cases hk : k = e.1
      · rw [if_pos hk, fndT_none]
        intro f hf e2
        exact h.1 (List.mem_map.2 ⟨f, hf, by rw [e2, hk]⟩)
      · rw [if_neg hk, fndT_cons, if_neg (fun e2 => hk e2.symm)]
    | succ i =>
      simp only [List.length_cons] at hi
      simp only [List.eraseIdx_cons_succ, List.getElem_cons_succ]
      rw [fndT_cons, fndT_cons, ih h.2 (by omega)]
      by_cases hk : e.1 = k
      · rw [if_pos hk, if_pos hk, if_neg (fun e2 => h.1 (by rw [hk, e2]; exact List.mem_map.2 ⟨_, List.getElem_mem (by omega), rfl⟩))]
      · rw [if_neg hk, if_neg hk]
theorem fndT_push {L : Tl} {k : Ky} (h : fndT L k = none) (j : Ky) : fndT (runT L k) j = if j = k then some none else fndT L j := by
  unfold runT
  induction L with
  | nil =>
    rw [List.nil_append, fndT_cons]
    by_cases hj : j = k
    · rw [if_pos hj.symm, if_pos hj]
    · rw [if_neg (fun e => hj e.symm), if_neg hj]
  | cons e r ih =>
    rw [fndT_cons] at h
    split at h
    · cases h
    · rename_i hek
      rw [List.cons_append, fndT_cons, fndT_cons, ih h]
      by_cases hj : e.1 = j
      · rw [if_pos hj, if_pos hj, if_neg (fun e2 => hek (by rw [hj, e2]))]
      · rw [if_neg hj, if_neg hj]
theorem doneT_keys (L : Tl) (k : Ky) (r : List Int) : (doneT L k r).map (·.1) = L.map (·.1) := by
  unfold doneT
  rw [List.map_map]
  apply List.map_congr_left
  intro e _
  by_cases h : e.1 = k <;> simp [h]
theorem doneT_len (L : Tl) (k : Ky) (r : List Int) : (doneT L k r).length = L.length := by simp [doneT]
theorem fndT_done {L : Tl} {k : Ky} (r : List Int) (h : (fndT L k).isSome = true) (j : Ky) : fndT (doneT L k r) j = if j = k then some (some r) else fndT L j := by
  induction L with
  | nil => simp [fndT] at h
  | cons e L ih =>
    show fndT ((if e.1 = k then (k, some r) else e) :: doneT L k r) j = _
    rw [fndT_cons, fndT_cons]
    rw [fndT_cons] at h
    by_cases he : e.1 = k
    · rw [if_pos he]
      by_cases hj : j = k
      · rw [if_pos hj, if_pos hj.symm]
      · rw [if_neg hj]
        show (if k = j then _ else _) = _
        rw [if_neg (fun e2 => hj e2.symm), if_neg (fun e2 => hj (by rw [← e2, he]))]
        by_cases hs : (fndT L k).isSome = true
        · rw [ih hs, if_neg hj]
        · have : doneT L k r = L := by
            have hn : fndT L k = none := by cases hx : fndT L k with
              | none => rfl
              | some y => rw [hx] at hs; simp at hs
            rw [fndT_none] at hn
            unfold doneT
            exact (List.map_congr_left (f := fun f : Ky × Option (List Int) => if f.1 = k then (k, some r) else f) (g := id) (fun f hf => if_neg (hn f hf))).trans (List.map_id _)
          rw [this]
    · rw [if_neg he] at h ⊢
      rw [ih h]
      by_cases hj : j = k
      · rw [if_pos hj, if_neg (fun e2 => he (e2.trans hj)), if_pos hj]
      · rw [if_neg hj, if_neg hj]
theorem dIx_some {L : Tl} {i : Nat} (h : dIx L = some i) : ∃ hi : i < L.length, L[i].2.isSome = true ∧ ∀ j (hj : j < i), L[j].2.isSome = false := by
  unfold dIx at h
  rw [List.findIdx?_eq_some_iff_getElem] at h
  obtain ⟨h1, h2, h3⟩ := h
  exact ⟨h1, h2, fun j hj => by simpa using h3 j hj⟩
theorem dIx_none {L : Tl} : dIx L = none ↔ ∀ e ∈ L, e.2.isSome = false := by
  unfold dIx
  rw [List.findIdx?_eq_none_iff]
theorem rmT_len {n : Nat} {L M : Tl} (h : rmT n L = some M) (hl : L.length ≤ n) (hn : 0 < n) : M.length + 1 ≤ n ∧ M.length ≤ L.length := by
  unfold rmT at h
  split at h
  · simp at h; subst h; omega
  · cases hd : dIx L with
    | none => rw [hd] at h; simp at h
    | some i =>
      rw [hd] at h
      simp at h
      subst h
      obtain ⟨hi, _⟩ := dIx_some hd
      rw [List.length_eraseIdx_of_lt hi]
      omega

/-! ### in memory -/
/-- A call's value in the map. -/
def EnV (w : World) (S : Nat → Prop) : Option (List Int) → Value → Prop
  | none, v => v = .agg #[.int .i64 2, .slice none 0 0]
  | some l, v => ∃ a c, v = .agg #[.int .i64 3, .slice a l.length c] ∧ By w S a l ∧ l.length ≤ c
theorem EnV.keep {w w' : World} {S S' : Nat → Prop} {o : Option (List Int)} {v : Value} (h : EnV w S o v) (hk : ∀ b, S b → b < w.heap.size → w'.heap[b]? = w.heap[b]?) (hs : ∀ b, S b → S' b) : EnV w' S' o v := by
  cases o with
  | none => exact h
  | some l =>
    obtain ⟨a, c, e, hb, hc⟩ := h
    exact ⟨a, c, e, (hb.keep hk).weak (fun b hb _ => hs b hb), hc⟩
/-- The map M holds what is known. -/
def MT (w : World) (S : Nat → Prop) (L : Tl) (M : Ky → Option Value) : Prop :=
  ∀ k : Ky, k.Ok → (∀ o, fndT L k = some o → ∃ v, M k = some v ∧ EnV w S o v) ∧ (fndT L k = none → M k = none)
theorem MT.keep {w w' : World} {S S' : Nat → Prop} {L : Tl} {M : Ky → Option Value} (h : MT w S L M) (hk : ∀ b, S b → b < w.heap.size → w'.heap[b]? = w.heap[b]?) (hs : ∀ b, S b → S' b) : MT w' S' L M :=
  fun k hok => ⟨fun o ho => let ⟨v, e1, e2⟩ := (h k hok).1 o ho; ⟨v, e1, e2.keep hk hs⟩, (h k hok).2⟩
abbrev rowT (L : Tl) : List Value := L.flatMap fun e => kL e.1
theorem rowT_len (L : Tl) : (rowT L).length = L.length * 5 := by
  induction L with
  | nil => rfl
  | cons e r ih => rw [rowT, List.flatMap_cons, List.length_append, ih]; simp; omega
theorem rowT_one (L : Tl) : ∀ u ∈ rowT L, u.oneCell' = true := by
  intro u hu
  obtain ⟨e, _, he⟩ := List.mem_flatMap.1 hu
  simp [kL] at he
  rcases he with rfl | rfl | rfl | rfl | rfl <;> rfl
theorem rowT_erase (L : Tl) (i : Nat) : (rowT L).take (i * 5) ++ (rowT L).drop ((i + 1) * 5) = rowT (L.eraseIdx i) := by
  induction L generalizing i with
  | nil => simp
  | cons e r ih =>
    cases i with
    | zero => simp [rowT, kL]
    | succ i =>
      have h1 : rowT (e :: r) = kL e.1 ++ rowT r := rfl
      have h2 : rowT ((e :: r).eraseIdx (i + 1)) = kL e.1 ++ rowT (r.eraseIdx i) := rfl
      have h3 : (kL e.1).length = 5 := rfl
      rw [h1, h2, ← ih i, List.take_append, List.drop_append, h3, List.take_of_length_le (by rw [h3]; omega), List.drop_eq_nil_of_le (by rw [h3]; omega), List.nil_append, List.append_assoc,
        show (i + 1) * 5 - 5 = i * 5 by omega, show (i + 1 + 1) * 5 - 5 = (i + 1) * 5 by omega]
theorem rowT_at {L : Tl} {i : Nat} (hi : i < L.length) (j : Nat) (u : Value) (h : (kL L[i].1)[j]? = some u) : (rowT L)[i * 5 + j]? = some u := by
  induction L generalizing i with
  | nil => simp at hi
  | cons e r ih =>
    have h1 : rowT (e :: r) = kL e.1 ++ rowT r := rfl
    have h3 : (kL e.1).length = 5 := rfl
    have hj : j < 5 := by have := (List.getElem?_eq_some_iff.1 h).1; simpa [kL] using this
    cases i with
    | zero => rw [h1, List.getElem?_append_left (by rw [h3]; omega)]; simpa using h
    | succ i =>
      simp only [List.length_cons] at hi
      rw [h1, List.getElem?_append_right (by rw [h3]; omega), h3, show (i + 1) * 5 + j - 5 = i * 5 + j by omega]
      exact ih (by omega) h
theorem rowT_push (L : Tl) (k : Ky) : rowT (runT L k) = rowT L ++ kL k := by simp [rowT, runT]
theorem rowT_done (L : Tl) (k : Ky) (r : List Int) : rowT (doneT L k r) = rowT L := by
  have h (M : Tl) : rowT M = (M.map (·.1)).flatMap kL := by simp [rowT, List.flatMap_map]
  rw [h, h, doneT_keys]
/-- A table at block p: its own blocks lie in S. -/
structure TbX (w : World) (p : Nat) (S : Nat → Prop) (n : Nat) (L : Tl) (c gm : Nat) (vo : Value) : Prop where
  box : w.heap[p]? = some (.cells #[.int .i64 n, .map (some gm), vo] 56 (0, 0))
  mp : ∃ M, MapK w gm c M ∧ MT w S L M
  row : RW w 33 5 vo L.length (rowT L)
  ok : ∀ e ∈ L, e.1.Ok
  nd : (L.map (·.1)).Nodup
  sp : S p
  sg : S gm
  so : ∀ b, blkV vo = some b → S b
  slt : ∀ b, S b → b < w.heap.size
def TbAt (w : World) (p : Nat) (S : Nat → Prop) (n : Nat) (L : Tl) (c : Nat) : Prop := ∃ gm vo, TbX w p S n L c gm vo
section
variable {w w' : World} {p : Nat} {S S' : Nat → Prop} {n : Nat} {L : Tl} {c gm : Nat} {vo : Value}
theorem TbX.keep (h : TbX w p S n L c gm vo) (hk : ∀ b, S b → w'.heap[b]? = w.heap[b]?) (hs : w.heap.size ≤ w'.heap.size) : TbX w' p S n L c gm vo :=
  ⟨(hk p h.sp).trans h.box, let ⟨M, h1, h2⟩ := h.mp; ⟨M, h1.keep (hk gm h.sg), h2.keep (fun b hb _ => hk b hb) (fun _ h => h)⟩, h.row.keep (fun b hb => hk b (h.so b hb)), h.ok, h.nd, h.sp, h.sg, h.so, fun b hb => Nat.lt_of_lt_of_le (h.slt b hb) hs⟩
theorem TbX.later (h : TbX w p S n L c gm vo) (hb : Below w.heap.size w w') : TbX w' p S n L c gm vo := h.keep (fun b hb2 => hb.block b (h.slt b hb2)) hb.size
theorem TbX.drew (h : TbX w p S n L c gm vo) : TbX w.drew p S n L c gm vo := h.later ((Below.refl _ _).drew)
theorem TbX.mono {c' : Nat} (h : TbX w p S n L c gm vo) (hc : c ≤ c') : TbX w p S n L c' gm vo :=
  ⟨h.box, let ⟨M, h1, h2⟩ := h.mp; ⟨M, h1.mono hc, h2⟩, h.row, h.ok, h.nd, h.sp, h.sg, h.so, h.slt⟩
theorem TbAt.later (h : TbAt w p S n L c) (hb : Below w.heap.size w w') : TbAt w' p S n L c := let ⟨gm, vo, h1⟩ := h; ⟨gm, vo, h1.later hb⟩
theorem TbAt.keep (h : TbAt w p S n L c) (hk : ∀ b, S b → w'.heap[b]? = w.heap[b]?) (hs : w.heap.size ≤ w'.heap.size) : TbAt w' p S n L c := let ⟨gm, vo, h1⟩ := h; ⟨gm, vo, h1.keep hk hs⟩
theorem TbX.npm (h : TbX w p S n L c gm vo) : p ≠ gm := fun e => by
  obtain ⟨M, h1, _⟩ := h.mp
  obtain ⟨es, cl, hh⟩ := h1.kind
  rw [← e, h.box] at hh
  simp at hh
theorem TbX.nop (h : TbX w p S n L c gm vo) {b : Nat} (hb : blkV vo = some b) : b ≠ p := fun e => by
  obtain ⟨cur, hh⟩ := h.row.kind hb
  rw [e, h.box] at hh
  simp only [Option.some.injEq, Obj.cells.injEq] at hh
  exact absurd hh.2.1 (by decide)
theorem TbX.nog (h : TbX w p S n L c gm vo) {b : Nat} (hb : blkV vo = some b) : b ≠ gm := fun e => by
  obtain ⟨cur, hh⟩ := h.row.kind hb
  obtain ⟨M, h1, _⟩ := h.mp
  obtain ⟨es, cl, hh2⟩ := h1.kind
  rw [e, hh2] at hh
  simp at hh
end
/-- An entry's bytes lie where nothing but bytes lies. -/
theorem EnV.off {w w' : World} {S S' : Nat → Prop} {o : Option (List Int)} {v : Value} (h : EnV w S o v) {g : Nat} (hg : (∃ es cl, w.heap[g]? = some (.map es cl)) ∨ ∃ cur t fr, w.heap[g]? = some (.cells cur t fr) ∧ t ≠ 5) (hm : Mods (fun b => b = g) w w') (hs : ∀ b, S b → S' b) : EnV w' S' o v := by
  cases o with
  | none => exact h
  | some l =>
    obtain ⟨a, c, e, hb, hc⟩ := h
    refine ⟨a, c, e, ⟨hb.1, fun hp => ?_⟩, hc⟩
    obtain ⟨b, off, cur, fr, ha, hsb, hh, hcc⟩ := hb.2 hp
    refine ⟨b, off, cur, fr, ha, hs b hsb, (hm.block b (Array.getElem?_eq_some_iff.1 hh).1 (fun e2 => ?_)).trans hh, hcc⟩
    subst e2
    rcases hg with ⟨es, cl, h1⟩ | ⟨cur', t, fr', h1, h2⟩
    · rw [h1] at hh; simp at hh
    · rw [h1] at hh
      simp only [Option.some.injEq, Obj.cells.injEq] at hh
      exact h2 hh.2.1
theorem MT.off {w w' : World} {S S' : Nat → Prop} {L : Tl} {M : Ky → Option Value} (h : MT w S L M) {g : Nat} (hg : (∃ es cl, w.heap[g]? = some (.map es cl)) ∨ ∃ cur t fr, w.heap[g]? = some (.cells cur t fr) ∧ t ≠ 5) (hm : Mods (fun b => b = g) w w') (hs : ∀ b, S b → S' b) : MT w' S' L M :=
  fun k hok => ⟨fun o ho => let ⟨v, e1, e2⟩ := (h k hok).1 o ho; ⟨v, e1, e2.off hg hm hs⟩, (h k hok).2⟩
end Go.Proofs.Ythgmghfegaemkaa
