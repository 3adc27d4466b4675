/- Tables of calls: one more. -/
import Derived.Test.YthgmghfegaemkaaQbC
namespace Go.Proofs.Ythgmghfegaemkaa
open Go.RowKit Go.Maps
set_option linter.unusedVariables false

theorem infoK3 : (Try.prog.info? 33).map (fun i => (i.zero, i.size, i.bytes)) = some (some (kV ⟨0, 0, 0, 0, 0⟩), 5, 32) := by kernel_rfl
/-- One more call is known: the map is told, the row has grown. -/
theorem TbX.begun {w : World} {p : Nat} {S : Nat → Prop} {n : Nat} {L : Tl} {c gm : Nat} {vo : Value} (h : TbX w p S n L c gm vo) {k : Ky} (hk : k.Ok) (hf : fndT L k = none) (hc : c < 1000000) {m : Nat} (hm : L.length = m) (hl : m ≤ 1000) :
    ∃ W5, (Instr.mapUpdate 54 (.map (some gm)) (kV k) (.agg #[.int .i64 2, .slice none 0 0])).run Try.prog w.drew = .ok () W5 ∧ W5.heap[p]? = some (.cells #[.int .i64 n, .map (some gm), vo] 56 (0, 0)) ∧ (∀ b, b < w.heap.size → ¬ S b → W5.heap[b]? = w.heap[b]?) ∧
    ∃ W6 W7, W6 = W5.drew ∧ W7 = W6.alloc (.cells (kL k).toArray 33) ∧ W7.heap[p]? = some (.cells #[.int .i64 n, .map (some gm), vo] 56 (0, 0)) ∧ (∀ b, b < w.heap.size → ¬ S b → W7.heap[b]? = w.heap[b]?) ∧
    ∃ a7 c7 w8, (Builtin.append_ #[44, 44] 44 #[vo, .slice (some ⟨W6.heap.size, 0, none⟩) 1 1]).run Try.prog W7 = .ok (.slice a7 (m + 1) c7) w8 ∧ w8.heap[p]? = some (.cells #[.int .i64 n, .map (some gm), vo] 56 (0, 0)) ∧ (∀ b, b < w.heap.size → ¬ S b → w8.heap[b]? = w.heap[b]?) ∧
    ∃ S', TbX (w8.setCell ⟨p, 2, none⟩ (.slice a7 (m + 1) c7)) p S' n (runT L k) (c + 1) gm (.slice a7 (m + 1) c7) ∧ Kp S w S' (w8.setCell ⟨p, 2, none⟩ (.slice a7 (m + 1) c7)) := by
  obtain ⟨M, hM, hT⟩ := h.mp
  obtain ⟨W5, hup, hM5, hgr⟩ := (hM.keep (w' := w.drew) rfl).put Try.underlying54 (by unfold maxLen; omega) hk (.agg #[.int .i64 2, .slice none 0 0])
  have hg5 : Mods (fun x => x = gm) w W5 := ((Mods.refl _ w).drew).tr (Mods.of_grown' hgr)
  have hpl := (Array.getElem?_eq_some_iff.1 h.box).1
  have hp5 : W5.heap[p]? = some (.cells #[.int .i64 n, .map (some gm), vo] 56 (0, 0)) := (hg5.block p hpl h.npm).trans h.box
  have n5 : ∀ b, b < w.heap.size → ¬ S b → W5.heap[b]? = w.heap[b]? := fun b hb hn => hg5.block b hb (fun e => hn (by rw [e]; exact h.sg))
  obtain ⟨W7, hW7⟩ : ∃ W, W = W5.drew.alloc (.cells (kL k).toArray 33) := ⟨_, rfl⟩
  have b7 : Below W5.heap.size W5 W7 := by rw [hW7]; exact below_alloc ((Below.refl _ _).drew) (Nat.le_refl _) _
  have l5 : ∀ b, b < w.heap.size → b < W5.heap.size := fun b hb => Nat.lt_of_lt_of_le hb hg5.size
  have hp7 : W7.heap[p]? = some (.cells #[.int .i64 n, .map (some gm), vo] 56 (0, 0)) := (b7.block p (l5 p hpl)).trans hp5
  have n7 : ∀ b, b < w.heap.size → ¬ S b → W7.heap[b]? = w.heap[b]? := fun b hb hn => (b7.block b (l5 b hb)).trans (n5 b hb hn)
  have hr0 := h.row
  rw [hm] at hr0
  have hr7 : RW W7 33 5 vo m (rowT L) := (hr0.keep (fun x hx => hg5.block x (hr0.lt hx) (h.nog hx))).later b7
  have hnew : W7.heap[W5.heap.size]? = some (.cells (kL k).toArray 33 (0, 0)) := by rw [hW7]; exact alloc_new W5.drew _
  obtain ⟨a7, c7, w8, hap, hr8, hm8, hb8⟩ := RW.push W7 44 44 33 5 32 _ Try.underlying44 infoK3 rfl (by omega) (by omega) vo m (rowT L) hr7 (kL k) rfl (by intro u hu; simp [kL] at hu; rcases hu with rfl | rfl | rfl | rfl | rfl <;> rfl) (by omega) ⟨W5.heap.size, 0, none⟩ 1 (fun j u hj => by
    rw [add_addr, Nat.zero_add]
    exact cell_of hnew (by simpa using hj))
  have hlt8 : ∀ b, b < w.heap.size → b < W7.heap.size := fun b hb => Nat.lt_of_lt_of_le (l5 b hb) b7.size
  have hp8 : w8.heap[p]? = some (.cells #[.int .i64 n, .map (some gm), vo] 56 (0, 0)) := (hm8.block p (hlt8 p hpl) (fun e => h.nop e rfl)).trans hp7
  have n8 : ∀ b, b < w.heap.size → ¬ S b → w8.heap[b]? = w.heap[b]? := fun b hb hn => (hm8.block b (hlt8 b hb) (fun e => hn (h.so b e))).trans (n7 b hb hn)
  refine ⟨W5, hup, hp5, n5, W5.drew, W7, rfl, hW7, hp7, n7, a7, c7, w8, hap, hp8, n8, fun b => S b ∨ blkV (.slice a7 (m + 1) c7) = some b, ?_⟩
  obtain ⟨v8, hv8⟩ : ∃ v, v = Value.slice a7 (m + 1) c7 := ⟨_, rfl⟩
  rw [← hv8] at hr8 hb8 ⊢
  have m9 : Mods (fun b => b = p) w8 (w8.setCell ⟨p, 2, none⟩ v8) := (Mods.refl (fun b => b = p) w8).setCell p 2 v8 rfl
  have hs9 : (w8.setCell ⟨p, 2, none⟩ v8).heap.size = w8.heap.size := by simp [World.setCell]
  have hob : ∀ g, blkV v8 = some g → blkV vo = some g ∨ W7.heap.size ≤ g := fun g hg => by
    rcases hb8 with e | ⟨x, hx, e⟩
    · exact .inl (e ▸ hg)
    · rw [e] at hg; simp at hg; right; omega
  have h8p : ∀ g, blkV v8 = some g → g ≠ p := fun g hg e => by
    rcases hob g hg with h1 | h1
    · exact h.nop h1 e
    · have := hlt8 p hpl; omega
  have kp : Kp S w (fun b => S b ∨ blkV v8 = some b) (w8.setCell ⟨p, 2, none⟩ v8) := ⟨fun b hb => by
    rcases hb with h1 | h1
    · exact .inl h1
    · rcases hob b h1 with h2 | h2
      · exact .inl (h.so b h2)
      · exact .inr (Nat.le_trans hg5.size (Nat.le_trans b7.size h2)),
    (((hg5.weak (fun b hb => .inl (by rw [hb]; exact h.sg))).below b7).trans hm8 (fun b hb => .inl (h.so b hb))).tr (m9.weak (fun b hb => .inl (by rw [hb]; exact h.sp)))⟩
  have hgl : gm < W5.heap.size := hM5.lt
  have hgk : ∃ es cl, w.heap[gm]? = some (.map es cl) := hM.kind
  have t5 : MT W5 S L M := hT.off (.inl hgk) hg5 (fun _ h => h)
  have t7 : MT W7 S L M := t5.keep (fun b hb hl => b7.block b hl) (fun _ h => h)
  have t8 : MT w8 (fun b => S b ∨ blkV v8 = some b) L M := by
    by_cases hv : ∃ b, blkV vo = some b
    · obtain ⟨b, hb⟩ := hv
      obtain ⟨cur, hh⟩ := hr7.kind hb
      exact t7.off (g := b) (.inr ⟨cur, _, _, hh, by decide⟩) (hm8.weak (fun x hx => .inl (by rw [hb] at hx; simpa using hx.symm))) (fun _ h => .inl h)
    · exact t7.keep (fun b hb hl => hm8.block b hl (fun e => hv ⟨b, e⟩)) (fun _ h => .inl h)
  have t9 : MT (w8.setCell ⟨p, 2, none⟩ v8) (fun b => S b ∨ blkV v8 = some b) L M := t8.off (.inr ⟨_, _, _, hp8, by decide⟩) m9 (fun _ h => h)
  refine ⟨⟨setc hp8 2 v8, ⟨_, hM5.keep ?_, fun j hj => ⟨fun o ho => ?_, fun ho => ?_⟩⟩, ?_, fun e he => ?_, ?_, .inl h.sp, .inl h.sg, fun b hb => .inr hb, fun b hb => ?_⟩, kp⟩
  · rw [m9.block gm (Nat.lt_of_lt_of_le (Nat.lt_of_lt_of_le hgl b7.size) hm8.size) (fun e => h.npm e.symm), hm8.block gm (Nat.lt_of_lt_of_le hgl b7.size) (fun e => h.nog e rfl)]
    exact b7.block gm hgl
  · rw [fndT_push hf] at ho
    split at ho
    · rename_i hjk
      simp at ho
      subst ho
      exact ⟨_, by rw [hjk]; exact updK_same _ _ _, rfl⟩
    · rename_i hjk
      obtain ⟨v, e1, e2⟩ := (t9 j hj).1 o ho
      exact ⟨v, by rw [updK_other _ _ hjk]; exact e1, e2⟩
  · rw [fndT_push hf] at ho
    split at ho
    · cases ho
    · rename_i hjk
      rw [updK_other _ _ hjk]
      exact (t9 j hj).2 ho
  · have e1 : (runT L k).length = m + 1 := by simp [runT, hm]
    rw [e1, rowT_push]
    exact hr8.keep (fun x hx => m9.block x (hr8.lt hx) (h8p x hx))
  · rcases List.mem_append.1 he with h1 | h1
    · exact h.ok e h1
    · simp at h1; subst h1; exact hk
  · unfold runT
    rw [List.map_append, List.nodup_append]
    refine ⟨h.nd, by simp, fun a ha b hb => ?_⟩
    simp at hb
    subst hb
    obtain ⟨e, he, rfl⟩ := List.mem_map.1 ha
    exact fndT_none.1 hf e he
  · rw [hs9]
    rcases hb with h1 | h1
    · exact Nat.lt_of_lt_of_le (hlt8 b (h.slt b h1)) hm8.size
    · exact hr8.lt h1
end Go.Proofs.Ythgmghfegaemkaa
