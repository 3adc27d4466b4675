/- The document's card: rows of frames, told by runs. -/
import Derived.Test.YtdjghkngiicncaaGreatR5I
import Derived.Test.YtdjghkngiicncaaGreatNetK
namespace Go.Proofs.YtdjghkngiicncaaGreat
open Go.RowKit

/-- 'append([]byte{}, mem[z:z+n]...)'. -/
theorem clone_run (w : World) (g N : Nat) (f : Nat → Int) (z n c : Nat) (hm : Mem w g N f) (hz : z + n ≤ N) (hn : 0 < n) (hn2 : n ≤ 65536) (ty : TypeId) :
    ∃ b cp w', (Builtin.append_ #[25, 25] ty #[.slice (some ⟨w.heap.size, 0, none⟩) 0 0, .slice (some ⟨g, z, none⟩) n c]).run Tryz.prog (w.alloc (.cells #[] 5)) = .ok (.slice (some ⟨b, 0, none⟩) n cp) w' ∧ w.heap.size ≤ b ∧ Blk w' b (at_ f z n) ∧ Below w.heap.size w w' := by
  obtain ⟨i, hi, hz0, hz1, hz2⟩ := info5b
  have hb : Below w.heap.size w (w.alloc (.cells #[] 5)) := (Below.refl _ _).alloc (Nat.le_refl _) _
  have hby := (hm.below hb).bytes z n hz
  have hlen : (at_ f z n).length = n := by simp [at_]
  obtain ⟨v', w', hr, k1, k2, _, k4⟩ := run_append_own_at (P := Tryz.prog) (w := w.alloc (.cells #[] 5)) w.heap.size 25 ty 5 i (.int .u8 0) 1 1 Tryz.underlying25 hi hz0 hz1 hz2 rfl (by decide) (.slice (some ⟨w.heap.size, 0, none⟩) 0 0) 0 [] (own_empty w) ⟨g, z, none⟩ n c ((at_ f z n).map fun x => Value.int .u8 x) (by rw [List.length_map, hlen, Nat.mul_one]) (fun j u hj => by
    simp at hj
    obtain ⟨y, hy, rfl⟩ := hj
    have hj2 : j < (at_ f z n).length := (List.getElem?_eq_some_iff.1 hy).1
    obtain ⟨b2, o2, e2, c2, _⟩ := hby j hj2
    simp at e2
    obtain ⟨rfl, rfl⟩ := e2
    rw [add_addr, c2]
    simp [List.getD, hy]) (fun u hu => by simp at hu; obtain ⟨y, _, rfl⟩ := hu; rfl) (by unfold maxLen; omega) (by omega) (by simp)
  have ho : Own w' w.heap.size v' (at_ f z n) := by
    unfold Own
    rw [hlen]
    simpa using k1
  have hB : ∀ x ∈ at_ f z n, IsB x := fun x hx => by
    simp [at_] at hx
    obtain ⟨j, hj, rfl⟩ := hx
    exact hm.2 _ (by omega)
  obtain ⟨b, cp, rfl, _, _, h1, h2, h3⟩ := ho.open_ (by omega) hB
  rw [hlen] at hr
  refine ⟨b, cp, w', hr, h1, ?_, hb.grown k2 hb.size fun k hk => by simp [Value.ownBlock] at hk; omega⟩
  exact h3
theorem row_run (w : World) (b c n : Nat) (al : Nat → Prop) (L : List Int) (v : Value) (Ls : List (List Int)) (hf : FmRow w al v Ls) (hL : L.length = n) (hb : Blk w b L) (hal : al b) (hl : Ls.length ≤ 1048576) (ty : TypeId) :
    ∃ v' w', (Builtin.append_ #[44, 44] ty #[v, .slice (some ⟨w.heap.size, 0, none⟩) 1 1]).run Tryz.prog (w.alloc (.cells #[.slice (some ⟨b, 0, none⟩) n c] 25)) = .ok v' w' ∧
      FmRow w' (fun b => al b ∨ (w.heap.size < b ∧ b < w'.heap.size)) v' (Ls ++ [L]) ∧ w.heap.size < w'.heap.size ∧ Mods (fun b => v.ownBlock = some b) (w.alloc (.cells #[.slice (some ⟨b, 0, none⟩) n c] 25)) w' := by
  subst hL
  obtain ⟨R, h1, h2, h3, h4⟩ := hf
  obtain ⟨i0, hi, hz0, hz1, hz2⟩ := info25
  have hRl : R.length = Ls.length := by rw [← h1, List.length_map]
  have hbel : Below w.heap.size w (w.alloc (.cells #[.slice (some ⟨b, 0, none⟩) L.length c] 25)) := (Below.refl _ _).alloc (Nat.le_refl _) _
  have h2' := owns_below h2 hbel
  obtain ⟨v', w', hr, e1, e2, _, e4⟩ := run_append_own_at (P := Tryz.prog) (w := w.alloc (.cells #[.slice (some ⟨b, 0, none⟩) L.length c] 25)) 0 44 ty 25 i0 _ 1 24 Tryz.underlying44 hi hz0 hz1 hz2 rfl (by decide) v R.length (R.map celV) h2' ⟨w.heap.size, 0, none⟩ 1 1 [.slice (some ⟨b, 0, none⟩) L.length c] rfl (fun j u hj => by
    have hj1 : j < 1 := (List.getElem?_eq_some_iff.1 hj).1
    rw [add_addr, Nat.zero_add, new_cell w _ _ _ j (by simpa using hj1)]
    obtain rfl : j = 0 := by omega
    simpa using hj) (by intro u hu; simp at hu; subst hu; rfl) (by unfold maxLen; omega) (by omega) (by simp)
  refine ⟨v', w', hr, ?_⟩
  have hsz : w.heap.size < w'.heap.size := Nat.lt_of_lt_of_le (by simp) e2.size
  have hkeep : ∀ g, Mem w g 0 (fun _ => 0) → w'.heap[g]? = w.heap[g]? := fun g hg => by
    have hgl := hg.lt
    rw [e2.block g (Nat.lt_of_lt_of_le hgl hbel.size) (fun e => by
      obtain ⟨cur, hcur⟩ := owns_kind h2 e.symm
      obtain ⟨⟨c5, hc5, _⟩, _⟩ := hg
      rw [hcur] at hc5
      simp at hc5), hbel.block g hgl]
  have zero_of : ∀ {g : Nat} {M : List Int}, Blk w g M → Mem w g 0 (fun _ => 0) := fun {g M} hg => ⟨let ⟨c5, hc5, _, _⟩ := hg.1; ⟨c5, hc5, Nat.zero_le _, fun i hi => absurd hi (by omega)⟩, fun i hi => absurd hi (by omega)⟩
  refine ⟨⟨R ++ [(b, c, L)], by simp [h1], ?_, fun r hr => ?_, fun g hg => ?_⟩, hsz, ?_⟩
  · rw [List.length_append, List.map_append]
    exact e1
  · rcases List.mem_append.1 hr with h5 | h5
    · exact ⟨Mem.keep (h3 r h5).1 (hkeep _ (zero_of (h3 r h5).1)), .inl (h3 r h5).2⟩
    · simp at h5
      subst h5
      exact ⟨Mem.keep hb (hkeep _ (zero_of hb)), .inl hal⟩
  · rcases e4 with e4 | e4
    · rw [e4] at hg; exact .inl (h4 g hg)
    · have h6 := (owns_lt e1 hg).1
      rw [e4] at hg
      simp at hg
      exact .inr ⟨by omega, h6⟩
  · exact (Mods.refl _ _).grown e2 (fun g hg => .inl hg)
theorem frAt_at (f : Nat → Int) (z n : Nat) : frAt f z (12 + n) = at_ f (z + 12) n := by
  unfold frAt
  apply List.ext_getElem?
  intro i
  rw [List.getElem?_drop]
  unfold at_
  simp only [List.getElem?_map]
  by_cases h : i < n
  · rw [List.getElem?_range (by omega), List.getElem?_range h]
    simp only [Option.map_some]
    congr 2
    omega
  · rw [List.getElem?_eq_none (by simp; omega), List.getElem?_eq_none (by simp; omega)]
    rfl
theorem FmRow.apart {w : World} {al : Nat → Prop} {v x : Value} {Ls : List (List Int)} {l : List Nat} (h : FmRow w al v Ls) (hi : IRow w x l) : FmRow w (fun b => al b ∧ ¬ x.ownBlock = some b) v Ls := by
  obtain ⟨R, h1, h2, h3, h4⟩ := h
  refine ⟨R, h1, h2, fun r hr => ⟨(h3 r hr).1, (h3 r hr).2, fun e => ?_⟩, fun b hb => ⟨h4 b hb, fun e => ?_⟩⟩
  · obtain ⟨c, hc⟩ := owns_kind hi e
    obtain ⟨⟨c5, hc5, _⟩, _⟩ := (h3 r hr).1
    rw [hc] at hc5
    simp at hc5
  · obtain ⟨c, hc⟩ := owns_kind hi e
    obtain ⟨c', hc'⟩ := owns_kind h2 hb
    rw [hc] at hc'
    simp at hc'
theorem FmRow.other {w : World} {al : Nat → Prop} {v x : Value} {Ls : List (List Int)} {l : List Nat} (h : FmRow w al v Ls) (hi : IRow w x l) : ∀ b, x.ownBlock = some b → ¬ v.ownBlock = some b := fun b e e2 => by
  obtain ⟨R, h1, h2, h3, h4⟩ := h
  obtain ⟨c, hc⟩ := owns_kind hi e
  obtain ⟨c', hc'⟩ := owns_kind h2 e2
  rw [hc] at hc'
  simp at hc'
/-- What a round of Receive holds beside the card. -/
structure Bag (w wr : World) (lab1 : Nat → Nat) (v : Value) (Ls : List (List Int)) (x : Value) (l : List Nat) : Prop where
  fr : FmRow wr (Mine5 w wr lab1) v Ls
  ir : IRow wr x l
  own : ∀ b, x.ownBlock = some b → Mine5 w wr lab1 b
theorem Bag.onward {w w1 w2 : World} {lab1 lab2 : Nat → Nat} {v : Value} {Ls : List (List Int)} {x : Value} {l : List Nat} (h : Bag w w1 lab1 v Ls x l) (hk : Keep lab1 w1 lab2 w2) : Bag w w2 lab2 v Ls x l :=
  ⟨h.fr.onward hk, owns_keep h.ir (fun b hb => hk.block (h.own b hb).2.1 (h.own b hb).2.2), fun b hb => ⟨(h.own b hb).1, Nat.lt_of_lt_of_le (h.own b hb).2.1 hk.size, by rw [hk.1 b (h.own b hb).2.1]; exact (h.own b hb).2.2⟩⟩
theorem Bag.back {w wr w6 w7 : World} {lab1 : Nat → Nat} {v : Value} {Ls : List (List Int)} {x x7 : Value} {l l7 : List Nat} (h : Bag w wr lab1 v Ls x l) (hlt : ∀ b, lab1 b ≠ 0 → b < wr.heap.size) (hw : w.heap.size ≤ wr.heap.size) (hb : Below wr.heap.size wr w6) (hi : IRow w7 x7 l7) (hg : w6.grownBy w7 x.ownBlock) (ho : x7.ownBlock = x.ownBlock ∨ x7.ownBlock = some w6.heap.size) :
    Bag w w7 lab1 v Ls x7 l7 ∧ Mods (fun b => x.ownBlock = some b) wr w7 := by
  have hm : Mods (fun b => x.ownBlock = some b) wr w7 := (Mods.of_below hb).tr ((Mods.refl _ _).grown hg (fun b e => .inl e))
  have h6 := hb.size
  have h7 := hg.size
  refine ⟨⟨((h.fr.apart h.ir).keep (fun b hb hl => hm.block b hl hb.2)).weak (fun b hb _ => ⟨hb.1.1, Nat.lt_of_lt_of_le hb.1.2.1 hm.size, hb.1.2.2⟩), hi, fun b e => ?_⟩, hm⟩
  have hbl := (owns_lt hi e).1
  rcases ho with ho | ho
  · rw [ho] at e
    exact ⟨(h.own b e).1, hbl, (h.own b e).2.2⟩
  · rw [ho] at e
    simp at e
    exact ⟨by omega, hbl, Classical.byContradiction (fun e2 => by have := hlt b e2; omega)⟩
theorem Bag.row {w wr w6 w7 : World} {lab1 : Nat → Nat} {v v7 : Value} {Ls Ls7 : List (List Int)} {x : Value} {l : List Nat} {o : Obj} (h : Bag w wr lab1 v Ls x l) (hlt : ∀ b, lab1 b ≠ 0 → b < wr.heap.size) (hw : w.heap.size ≤ wr.heap.size) (hb : Below wr.heap.size wr w6) (hf : FmRow w7 (fun b => Mine5 w w6 lab1 b ∨ (w6.heap.size < b ∧ b < w7.heap.size)) v7 Ls7) (_hs : w6.heap.size < w7.heap.size) (hm7 : Mods (fun b => v.ownBlock = some b) (w6.alloc o) w7) :
    Bag w w7 lab1 v7 Ls7 x l ∧ Mods (fun b => v.ownBlock = some b) wr w7 := by
  have h6 := hb.size
  have hm : Mods (fun b => v.ownBlock = some b) wr w7 := (Mods.of_below hb).tr ((Mods.of_below ((Below.refl _ w6).alloc (Nat.le_refl _) o)).tr hm7)
  refine ⟨⟨hf.weak (fun b hb _ => ?_), owns_keep h.ir (fun b e => hm.block b (h.own b e).2.1 (h.fr.other h.ir b e)), fun b e => ⟨(h.own b e).1, Nat.lt_of_lt_of_le (h.own b e).2.1 hm.size, (h.own b e).2.2⟩⟩, hm⟩
  rcases hb with hb | hb
  · exact ⟨hb.1, by have := hb.2.1; omega, hb.2.2⟩
  · exact ⟨by omega, hb.2, Classical.byContradiction (fun e2 => by have := hlt b e2; omega)⟩
end Go.Proofs.YtdjghkngiicncaaGreat
