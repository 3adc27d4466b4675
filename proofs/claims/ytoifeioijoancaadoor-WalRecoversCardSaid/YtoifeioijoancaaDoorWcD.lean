/- 'append' to a row that is read on; known. -/
import Derived.Test.YtoifeioijoancaaDoorWcC
import Derived.ArgAppend
namespace Go.Proofs.YtoifeioijoancaaDoor
open Go.RowKit Go.Maps
set_option linter.unusedVariables false

theorem PO.heap {w : World} {S : Nat → Prop} {v : Value} {L : List Pw} (h : PO w S v L) (hp : 0 < L.length) : ∃ g c cur, v = .slice (some ⟨g, 0, none⟩) L.length c ∧ S g ∧ w.heap[g]? = some (.cells cur 29 (0, 0)) ∧ L.length ≤ c ∧ c ≤ maxLen ∧ cur.size = c * 2 ∧ Ps w S (some ⟨g, 0, none⟩) L := by
  obtain ⟨a, c, e, hle, hps⟩ := h.ps
  rcases h.1.2 with ⟨rfl, h0⟩ | ⟨g, cap, cur, rfl, _, hh, hc1, hc2, hcs, ht⟩
  · omega
  · simp only [Value.slice.injEq] at e
    obtain ⟨rfl, _, rfl⟩ := e
    exact ⟨g, cap, cur, rfl, h.2.1 g rfl, hh, hc1, hc2, hcs, hps⟩
set_option maxRecDepth 10000 in
/-- 'append' of a block to a row anywhere: the row itself reads on as it did. -/
theorem app_put (w : World) (S : Nat → Prop) (b off n cap : Nat) (cur : Array Value) (hh : w.heap[b]? = some (.cells cur 29 (0, 0))) (hcap : n ≤ cap) (hcs : off + cap * 2 ≤ cur.size) (hcm : cap ≤ maxLen) (L : List Pw) (hl : L.length = n) (hS : S b)
    (hcur : ∀ i, i < n * 2 → cur[off + i]? = (cellsP L)[i]?) (hdat : ∀ p ∈ L, By w S p.a p.dat ∧ p.dat.length ≤ p.c) (p : Pw) (hp : By w S p.a p.dat) (hc : p.dat.length ≤ p.c) (cb co cc : Nat) (c1 : w.cell? ⟨cb, co, none⟩ = some (.int .i64 p.blk)) (c2 : w.cell? ⟨cb, co + 1, none⟩ = some (.slice p.a p.dat.length p.c)) (hn : n ≤ 1000000) (ty : TypeId) :
    ∃ a n' c' w', (Builtin.append_ #[25, 25] ty #[.slice (some ⟨b, off, none⟩) n cap, .slice (some ⟨cb, co, none⟩) 1 cc]).run Tryd.prog w = .ok (.slice a n' c') w' ∧ n' = n + 1 ∧ n' ≤ c' ∧ Ps w' (fun x => S x ∨ w.heap.size ≤ x) a (L ++ [p]) ∧ Ps w' S (some ⟨b, off, none⟩) L ∧ Mods (fun x => x = b) w w' := by
  obtain ⟨i0, hi, hz0, hz1, hz2⟩ := infoPut
  have hnews : ∀ j u, (cellsP [p])[j]? = some u → w.cell? ((⟨cb, co, none⟩ : Addr).add j) = some u := fun j u hj => by
    rw [add_addr]
    have hj2 : j < 2 := by have := (List.getElem?_eq_some_iff.1 hj).1; rw [cellsP_len] at this; simpa using this
    rcases (show j = 0 ∨ j = 1 by omega) with rfl | rfl
    · rw [Nat.add_zero, c1]; simpa [cellsP] using hj
    · rw [c2]; simpa [cellsP] using hj
  have h5 : ∀ g cu fr, g = b → w.heap[g]? = some (.cells cu 5 fr) → False := fun g cu fr e e2 => by
    subst e; rw [hh] at e2; simp at e2
  by_cases hroom : n + 1 ≤ cap
  · have hlen2 : (cellsP [p]).length = 2 := by rw [cellsP_len]; rfl
    have hr := run_append_room_cells (P := Tryd.prog) w 25 ty 29 i0 Tryd.underlying25 hi b off n cap ⟨cb, co, none⟩ 1 cc (cellsP [p]) (by rw [hlen2, hz1]) hnews (cellsP_one _) hroom (fun j hj => by
      rw [hlen2] at hj
      rw [hz1]
      have : off + n * 2 + j < cur.size := by omega
      simp [World.cell?, hh, this]) (fun j hj => froz_of hh _)
    rw [hz1] at hr
    have hm : Mods (fun x => x = b) w (w.setCells b (off + n * 2) (cellsP [p])) := setCells_mods b _ _ _
    have hh' := setCells_heap (cellsP [p]) w cur (off + n * 2) hh
    have hget := putA_get (cellsP [p]) cur (off + n * 2) (by rw [hlen2]; omega)
    have hd' : ∀ q ∈ L ++ [p], By (w.setCells b (off + n * 2) (cellsP [p])) S q.a q.dat ∧ q.dat.length ≤ q.c := fun q hq => by
      rcases List.mem_append.1 hq with h1 | h1
      · exact ⟨(hdat q h1).1.mods hm h5, (hdat q h1).2⟩
      · simp at h1; subst h1; exact ⟨hp.mods hm h5, hc⟩
    refine ⟨_, n + 1, cap, _, hr, rfl, hroom, ?_, ⟨fun q hq => hd' q (by simp [hq]), fun _ => ⟨b, off, _, rfl, hS, hh', fun i hi => ?_⟩⟩, hm⟩
    · refine Ps.weak (S := S) ⟨hd', fun _ => ⟨b, off, _, rfl, hS, hh', fun i hi => ?_⟩⟩ (fun _ h _ => .inl h)
      rw [List.length_append, hl] at hi
      simp at hi
      rw [hget, hlen2, cellsP_app]
      by_cases e : i < n * 2
      · rw [if_neg (by omega), List.getElem?_append_left (by rw [cellsP_len, hl]; exact e)]
        exact hcur i e
      · rw [if_pos (by omega), List.getElem?_append_right (by rw [cellsP_len, hl]; omega), cellsP_len, hl]
        congr 1
        omega
    · rw [hl] at hi
      rw [hget, if_neg (by omega)]
      exact hcur i hi
  · have hgrow : cap < n + 1 := by omega
    obtain ⟨v', w', hr, ho, hg⟩ := run_append_arg_grows (P := Tryd.prog) w 25 ty 29 i0 _ 2 32 Tryd.underlying25 hi hz0 hz1 hz2 rfl (by decide) ⟨b, off, none⟩ n cap (cellsP L) (by rw [cellsP_len, hl]) (fun j u hj => by
      have hj2 : j < n * 2 := by have := (List.getElem?_eq_some_iff.1 hj).1; rw [cellsP_len, hl] at this; exact this
      rw [add_addr]
      simp [World.cell?, hh, hcur j hj2, hj]) ⟨cb, co, none⟩ 1 cc (cellsP [p]) (by rw [cellsP_len]; rfl) hnews hgrow (by unfold maxLen; omega) (by omega)
    have hm : ∀ x, x < w.heap.size → w'.heap[x]? = w.heap[x]? := fun x hx => hg.block x hx (by simp)
    have hM : Mods (fun x => x = b) w w' := ⟨hg.os, hg.tape, hg.output, hg.size, fun x hx _ => hm x hx⟩
    have kp : ∀ q : Pw, By w S q.a q.dat → By w' S q.a q.dat := fun q hq => hq.keep (fun x _ hx => hm x hx)
    rcases ho.2 with ⟨_, h0⟩ | ⟨g, c', cur', rfl, hbg, hh', hc1', hc2', hcs', ht'⟩
    · omega
    · obtain ⟨hlt, _⟩ := Array.getElem?_eq_some_iff.1 hh'
      refine ⟨_, n + 1, c', w', hr, rfl, hc1', ?_, ⟨fun q hq => ⟨kp q (hdat q hq).1, (hdat q hq).2⟩, fun _ => ⟨b, off, cur, rfl, hS, (hm b (Array.getElem?_eq_some_iff.1 hh).1).trans hh, fun i hi => hcur i (by rw [← hl]; exact hi)⟩⟩, hM⟩
      refine ⟨fun q hq => ?_, fun _ => ⟨g, 0, cur', rfl, ?_, hh', fun i hi => ?_⟩⟩
      · rcases List.mem_append.1 hq with h1 | h1
        · exact ⟨(kp q (hdat q h1).1).weak (fun _ h _ => .inl h), (hdat q h1).2⟩
        · simp at h1; subst h1; exact ⟨(kp q hp).weak (fun _ h _ => .inl h), hc⟩
      · exact .inr hbg
      · rw [List.length_append, hl] at hi
        simp at hi
        rw [Nat.zero_add, cellsP_app]
        have e : (cur'.toList.take ((n + 1) * 2))[i]? = (cellsP L ++ cellsP [p])[i]? := by rw [ht']
        rw [List.getElem?_take, if_pos (by omega), Array.getElem?_toList] at e
        exact e
end Go.Proofs.YtoifeioijoancaaDoor
