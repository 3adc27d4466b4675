/- The document's peers: rows of those that are known. -/
import Derived.Test.YtlflbpemjlgdiaaEiA
namespace Go.Proofs.Ytlflbpemjlgdiaa
open Go.RowKit Go.Maps
set_option linter.unusedVariables false

def peV (e : Pe) : List Value := [.int .u32 e.ip, .int .u8 e.mac.a, .int .u8 e.mac.b, .int .u8 e.mac.c, .int .u8 e.mac.d, .int .u8 e.mac.e, .int .u8 e.mac.f]
def cellsPe (L : List Pe) : List Value := L.flatMap peV
theorem peV_len (e : Pe) : (peV e).length = 7 := rfl
theorem cellsPe_len (L : List Pe) : (cellsPe L).length = L.length * 7 := by
  induction L with
  | nil => rfl
  | cons e L ih => simp only [cellsPe, List.flatMap_cons, List.length_append, peV_len, List.length_cons] at *; rw [ih]; omega
theorem cellsPe_app (L M : List Pe) : cellsPe (L ++ M) = cellsPe L ++ cellsPe M := by simp [cellsPe]
theorem cellsPe_at (L : List Pe) (d : Pe) (i j : Nat) (hi : i < L.length) (hj : j < 7) : (cellsPe L)[i * 7 + j]? = (peV (L.getD i d))[j]? := by
  induction L generalizing i with
  | nil => simp at hi
  | cons e L ih =>
    rw [show cellsPe (e :: L) = peV e ++ cellsPe L from rfl]
    cases i with
    | zero => rw [List.getElem?_append_left (by rw [peV_len]; omega)]; simp
    | succ i =>
      rw [List.getElem?_append_right (by rw [peV_len]; omega), peV_len, show (i + 1) * 7 + j - 7 = i * 7 + j by omega, ih i (by simpa using hi)]
      simp
theorem cellsPe_drop (e : Pe) (L : List Pe) (j : Nat) : (cellsPe (e :: L))[7 + j]? = (cellsPe L)[j]? := by
  rw [show cellsPe (e :: L) = peV e ++ cellsPe L from rfl, List.getElem?_append_right (by rw [peV_len]; omega), peV_len, Nat.add_sub_cancel_left]
theorem cellsPe_one (L : List Pe) : ∀ u ∈ cellsPe L, u.oneCell' = true := by
  intro u hu
  obtain ⟨e, _, he⟩ := List.mem_flatMap.1 hu
  simp [peV] at he
  rcases he with rfl | rfl | rfl | rfl | rfl | rfl | rfl <;> rfl
def blkV : Value → Option Nat
  | .slice (some a) _ _ => some a.block
  | _ => none
/-- A row of peers that may be cut at its head and appended to. -/
def PRw (w : World) (v : Value) (L : List Pe) : Prop :=
  (v = .slice none 0 0 ∧ L = []) ∨ ∃ b off cap cur, v = .slice (some ⟨b, off, none⟩) L.length cap ∧ w.heap[b]? = some (.cells cur 57 (0, 0)) ∧ L.length ≤ cap ∧ cap ≤ maxLen ∧ off + cap * 7 ≤ cur.size ∧ ∀ j, j < L.length * 7 → cur[off + j]? = (cellsPe L)[j]?
section
variable {w w' : World} {v : Value} {L : List Pe}
theorem PRw.shape (h : PRw w v L) : ∃ a c, v = .slice a L.length c := by
  rcases h with ⟨rfl, rfl⟩ | ⟨b, off, cap, cur, rfl, _⟩
  · exact ⟨_, _, rfl⟩
  · exact ⟨_, _, rfl⟩
theorem PRw.lt (h : PRw w v L) {b : Nat} (hb : blkV v = some b) : b < w.heap.size := by
  rcases h with ⟨rfl, rfl⟩ | ⟨b', off, cap, cur, rfl, hh, _⟩
  · simp [blkV] at hb
  · simp [blkV] at hb; subst hb; exact (Array.getElem?_eq_some_iff.1 hh).1
theorem PRw.kind (h : PRw w v L) {b : Nat} (hb : blkV v = some b) : ∃ cur, w.heap[b]? = some (.cells cur 57 (0, 0)) := by
  rcases h with ⟨rfl, rfl⟩ | ⟨b', off, cap, cur, rfl, hh, _⟩
  · simp [blkV] at hb
  · simp [blkV] at hb; subst hb; exact ⟨cur, hh⟩
theorem PRw.keep (h : PRw w v L) (hk : ∀ b, blkV v = some b → w'.heap[b]? = w.heap[b]?) : PRw w' v L := by
  rcases h with h | ⟨b, off, cap, cur, rfl, hh, r⟩
  · exact .inl h
  · exact .inr ⟨b, off, cap, cur, rfl, (hk b rfl).trans hh, r⟩
theorem PRw.later (h : PRw w v L) (hb : Below w.heap.size w w') : PRw w' v L := h.keep (fun b hb2 => hb.block b (h.lt hb2))
theorem PRw.at_ (h : PRw w v L) {i : Nat} (hi : i < L.length) (d : Pe) : ∃ b off cap, v = .slice (some ⟨b, off, none⟩) L.length cap ∧ ∀ j, j < 7 → w.cell? ⟨b, off + i * 7 + j, none⟩ = (peV (L.getD i d))[j]? := by
  rcases h with ⟨rfl, rfl⟩ | ⟨b, off, cap, cur, rfl, hh, h1, _, h2, h3⟩
  · simp at hi
  · refine ⟨b, off, cap, rfl, fun j hj => ?_⟩
    have e := h3 (i * 7 + j) (by omega)
    rw [cellsPe_at L d i j hi hj, ← Nat.add_assoc] at e
    have e2 : (peV (L.getD i d))[j]? = some ((peV (L.getD i d))[j]'(by rw [peV_len]; exact hj)) := List.getElem?_eq_getElem _
    rw [e2] at e ⊢
    exact cell_of hh e
theorem PRw.tail {b off cap n : Nat} (h : PRw w (.slice (some ⟨b, off, none⟩) n cap) L) (hn : 1 < n) : PRw w (.slice (some ⟨b, off + 7, none⟩) (n - 1) (cap - 1)) (L.drop 1) := by
  rcases h with ⟨e, _⟩ | ⟨b', off', cap', cur, e, hh, h1, hm, h2, h3⟩
  · simp at e
  · simp only [Value.slice.injEq, Option.some.injEq, Addr.mk.injEq, and_true] at e
    obtain ⟨⟨rfl, rfl⟩, rfl, rfl⟩ := e
    match L, hn with
    | e :: L, _ =>
      refine .inr ⟨b, off + 7, cap - 1, cur, by simp, hh, by simp at h1 ⊢; omega, by omega, by omega, fun j hj => ?_⟩
      have := h3 (7 + j) (by simp at hj ⊢; omega)
      rw [cellsPe_drop, ← Nat.add_assoc] at this
      exact this
end
theorem infoPe : ∃ i, Try.prog.info? 57 = some i ∧ i.zero = some (.agg #[.int .u32 0, .int .u8 0, .int .u8 0, .int .u8 0, .int .u8 0, .int .u8 0, .int .u8 0]) ∧ i.size = 7 ∧ i.bytes = 12 := by
  have h : (Try.prog.info? 57).map (fun i => (i.zero, i.size, i.bytes)) = some (some (.agg #[.int .u32 0, .int .u8 0, .int .u8 0, .int .u8 0, .int .u8 0, .int .u8 0, .int .u8 0]), 7, 12) := by kernel_rfl
  cases hi : Try.prog.info? 57 with
  | none => rw [hi] at h; simp at h
  | some i => rw [hi] at h; simp at h; exact ⟨i, rfl, h.1, h.2.1, h.2.2⟩
/-- 'append' of one peer. -/
theorem PRw.push (w : World) (v : Value) (L : List Pe) (h : PRw w v L) (e : Pe) (hl : L.length ≤ 1000) (g : Nat) (hg : ∀ j, j < 7 → w.cell? ⟨g, j, none⟩ = (peV e)[j]?) (ty : TypeId) :
    ∃ a c w', (Builtin.append_ #[45, 45] ty #[v, .slice (some ⟨g, 0, none⟩) 1 1]).run Try.prog w = .ok (.slice a (L.length + 1) c) w' ∧ PRw w' (.slice a (L.length + 1) c) (L ++ [e]) ∧ Mods (fun b => blkV v = some b) w w' ∧ (blkV (.slice a (L.length + 1) c) = blkV v ∨ ∃ x, w.heap.size ≤ x ∧ blkV (.slice a (L.length + 1) c) = some x) := by
  obtain ⟨i0, hi, hz0, hz1, hz2⟩ := infoPe
  have hcell : ∀ j u, (peV e)[j]? = some u → w.cell? ((⟨g, 0, none⟩ : Addr).add j) = some u := fun j u hj => by
    have hj2 : j < 7 := by have := (List.getElem?_eq_some_iff.1 hj).1; rw [peV_len] at this; exact this
    rw [add_addr, Nat.zero_add, hg j hj2]; exact hj
  have hone : ∀ u ∈ peV e, u.oneCell' = true := fun u hu => cellsPe_one [e] u (by simpa [cellsPe] using hu)
  have fromOwn : ∀ (v' : Value) (w' : World) (M : List Value), w'.ownsRow w.heap.size 57 7 v' (L.length + 1) (M ++ peV e) → M = cellsPe L → ∃ a c, v' = .slice a (L.length + 1) c ∧ PRw w' v' (L ++ [e]) ∧ ∃ x, w.heap.size ≤ x ∧ blkV v' = some x := fun v' w' M ho hM => by
    rcases ho.2 with ⟨_, h0⟩ | ⟨g', cap', cur', rfl, hge, hh', h1', h2', h3', h4'⟩
    · omega
    · refine ⟨_, _, rfl, .inr ⟨g', 0, cap', cur', by simp, hh', by simpa using h1', h2', by omega, fun j hj => ?_⟩, g', hge, rfl⟩
      have e1 : (cur'.toList.take ((L.length + 1) * 7))[j]? = (M ++ peV e)[j]? := by rw [h4']
      rw [List.getElem?_take, if_pos (by simpa using hj), Array.getElem?_toList] at e1
      rw [Nat.zero_add, e1, hM, cellsPe_app]
      simp [cellsPe]
  rcases h with ⟨rfl, rfl⟩ | ⟨b, off, cap, cur, rfl, hh, h1, hm, h2, h3⟩
  · obtain ⟨v', w', hr, ho, hgr, _, hob⟩ := run_append_own_at (P := Try.prog) w w.heap.size 45 ty 57 i0 _ 7 12 Try.underlying45 hi hz0 hz1 hz2 rfl (by decide) (.slice none 0 0) 0 [] ⟨rfl, .inl ⟨rfl, rfl⟩⟩ ⟨g, 0, none⟩ 1 1 (peV e) rfl hcell hone (by unfold maxLen; omega) (by omega) (Nat.le_refl _)
    obtain ⟨a, c, rfl, hp, x, hx1, hx2⟩ := fromOwn v' w' [] (by simpa using ho) rfl
    exact ⟨a, c, w', hr, hp, ⟨hgr.os, hgr.tape, hgr.output, hgr.size, fun y hy hn => hgr.block y hy (by simp [Value.ownBlock])⟩, .inr ⟨x, hx1, hx2⟩⟩
  · by_cases hroom : L.length + 1 ≤ cap
    · have hr := run_append_room_cells (P := Try.prog) w 45 ty 57 i0 Try.underlying45 hi b off L.length cap ⟨g, 0, none⟩ 1 1 (peV e) (by rw [hz1]; rfl) hcell hone hroom (fun j hj => by
        rw [hz1]
        rw [peV_len] at hj
        have hlt : off + L.length * 7 + j < cur.size := by omega
        have := cell_of hh (i := off + L.length * 7 + j) (v := cur[off + L.length * 7 + j]) (by simp [hlt])
        rw [this]; rfl) (fun j hj => froz_of hh _)
      rw [hz1] at hr
      have hb' := setCells_heap (g := b) (t := 57) (peV e) w cur (off + L.length * 7) hh
      refine ⟨_, _, _, hr, .inr ⟨b, off, cap, _, by simp, hb', by simpa using hroom, hm, by rw [putA_size]; exact h2, fun j hj => ?_⟩, (setCells_mods b (peV e) w _).weak (fun y hy => by subst hy; exact .inl rfl), .inl rfl⟩
      rw [putA_get _ _ _ (by rw [peV_len]; omega), peV_len]
      simp at hj
      by_cases hj2 : j < L.length * 7
      · rw [if_neg (by omega), h3 j hj2, cellsPe_app, List.getElem?_append_left (by rw [cellsPe_len]; exact hj2)]
      · rw [if_pos (by omega), cellsPe_app, List.getElem?_append_right (by rw [cellsPe_len]; omega), cellsPe_len]
        rw [show off + j - (off + L.length * 7) = j - L.length * 7 by omega]
        simp [cellsPe]
    · have hold : ∀ j u, (cellsPe L)[j]? = some u → w.cell? ((⟨b, off, none⟩ : Addr).add j) = some u := fun j u hj => by
        have hj2 : j < L.length * 7 := by have := (List.getElem?_eq_some_iff.1 hj).1; rw [cellsPe_len] at this; exact this
        rw [add_addr]
        exact cell_of hh (by rw [h3 j hj2]; exact hj)
      obtain ⟨v', w', hr, ho, hgr⟩ := run_append_arg_grows (P := Try.prog) w 45 ty 57 i0 _ 7 12 Try.underlying45 hi hz0 hz1 hz2 rfl (by decide) ⟨b, off, none⟩ L.length cap (cellsPe L) (cellsPe_len L) hold ⟨g, 0, none⟩ 1 1 (peV e) rfl hcell (by omega) (by unfold maxLen; omega) (by omega)
      obtain ⟨a, c, rfl, hp, x, hx1, hx2⟩ := fromOwn v' w' (cellsPe L) ho rfl
      exact ⟨a, c, w', hr, hp, ⟨hgr.os, hgr.tape, hgr.output, hgr.size, fun y hy hn => hgr.block y hy (by simp)⟩, .inr ⟨x, hx1, hx2⟩⟩
end Go.Proofs.Ytlflbpemjlgdiaa
