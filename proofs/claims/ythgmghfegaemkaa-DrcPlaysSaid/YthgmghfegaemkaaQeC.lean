/- The document's Begin, of one that is not known. -/
import Derived.Test.YthgmghfegaemkaaQeB
import Derived.Test.YthgmghfegaemkaaQbF
namespace Go.Proofs.Ythgmghfegaemkaa
open Go.RowKit Go.Maps
set_option linter.unusedVariables false

/-- A new entry at the end of a row that lies at v in world w: the table's block is told of it. -/
theorem DbX.grown {w w8 : World} {q : Nat} {T : Nat → Prop} {n : Nat} {E : List De} {v : Value} (h : DbX w q T n E v) {F : List De} {a8 : Option Addr} {m8 c8 : Nat} (hm8 : F.length = m8)
    (hr : RW w8 50 7 (.slice a8 m8 c8) m8 (rowD F)) (hF : ∀ e ∈ F, e.2.1 = none ∧ e.2.2 = .slice none 0 0 ∨ e ∈ E) (hnd : ((toT F).map (·.1)).Nodup) (hms : Mods T w w8) (hq8 : w8.heap[q]? = some (.cells #[.int .i64 n, v] 48 (0, 0)))
    (hown : ∀ b, blkV (.slice a8 m8 c8) = some b → b ≠ q ∧ (T b ∨ w.heap.size ≤ b)) (hrep : ∀ e ∈ E, RepV w8 T e.2.1 e.2.2) :
    DbX (w8.setCell ⟨q, 1, none⟩ (.slice a8 m8 c8)) q (fun b => T b ∨ blkV (.slice a8 m8 c8) = some b) n F (.slice a8 m8 c8) ∧ Kp T w (fun b => T b ∨ blkV (.slice a8 m8 c8) = some b) (w8.setCell ⟨q, 1, none⟩ (.slice a8 m8 c8)) := by
  have m9 : Mods (fun b => b = q) w8 (w8.setCell ⟨q, 1, none⟩ (.slice a8 m8 c8)) := (Mods.refl (fun b => b = q) w8).setCell q 1 _ rfl
  refine ⟨⟨setc hq8 1 _, ?_, fun e he => ?_, hnd, .inl h.sq, fun b hb => .inr hb, fun b hb => ?_⟩, ⟨fun b hb => ?_, hms.tr (m9.weak (fun b hb => .inl (by rw [hb]; exact h.sq)))⟩⟩
  · rw [hm8]; exact hr.keep (fun b hb => m9.block b (hr.lt hb) (hown b hb).1)
  · rcases hF e he with ⟨h1, h2⟩ | h1
    · rw [h1, h2]; exact rfl
    · exact (hrep e h1).off ⟨_, _, _, hq8, by decide⟩ m9 (fun _ h => .inl h)
  · have hs9 : (w8.setCell ⟨q, 1, none⟩ (.slice a8 m8 c8)).heap.size = w8.heap.size := by simp [World.setCell]
    rw [hs9]
    rcases hb with h1 | h1
    · exact Nat.lt_of_lt_of_le (h.slt b h1) hms.size
    · exact hr.lt h1
  · rcases hb with h1 | h1
    · exact .inl h1
    · exact (hown b h1).2
/-- One more entry. -/
theorem DbX.push {w : World} {q : Nat} {T : Nat → Prop} {n : Nat} {E : List De} {v : Value} (h : DbX w q T n E v) {k : Ky} (hf : fndT (toT E) k = none) {m : Nat} (hm : E.length = m) (hl : m ≤ 1000) :
    ∃ W7, W7 = w.alloc (.cells #[.int .u32 k.ip, .int .i64 k.port, .int .u32 k.xid, .int .u32 k.proc, .int .u32 k.sum, .bool false, .slice none 0 0] 50) ∧ W7.heap[q]? = some (.cells #[.int .i64 n, v] 48 (0, 0)) ∧
    ∃ a8 c8 w8, (Builtin.append_ #[46, 46] 46 #[v, .slice (some ⟨w.heap.size, 0, none⟩) 1 1]).run Try.prog W7 = .ok (.slice a8 (m + 1) c8) w8 ∧ w8.heap[q]? = some (.cells #[.int .i64 n, v] 48 (0, 0)) ∧
    DbAt (w8.setCell ⟨q, 1, none⟩ (.slice a8 (m + 1) c8)) q (fun b => T b ∨ blkV (.slice a8 (m + 1) c8) = some b) n (runT (toT E) k) ∧ Kp T w (fun b => T b ∨ blkV (.slice a8 (m + 1) c8) = some b) (w8.setCell ⟨q, 1, none⟩ (.slice a8 (m + 1) c8)) := by
  obtain ⟨W7, hW7⟩ : ∃ W, W = w.alloc (.cells #[.int .u32 k.ip, .int .i64 k.port, .int .u32 k.xid, .int .u32 k.proc, .int .u32 k.sum, .bool false, .slice none 0 0] 50) := ⟨_, rfl⟩
  have b7 : Below w.heap.size w W7 := by rw [hW7]; exact below_alloc (Below.refl _ _) (Nat.le_refl _) _
  have hql := (Array.getElem?_eq_some_iff.1 h.box).1
  have hq7 := (b7.block q hql).trans h.box
  have hr0 := h.row
  rw [hm] at hr0
  have hr7 : RW W7 50 7 v m (rowD E) := hr0.later b7
  have hnew := alloc_new w (.cells #[.int .u32 k.ip, .int .i64 k.port, .int .u32 k.xid, .int .u32 k.proc, .int .u32 k.sum, .bool false, .slice none 0 0] 50)
  rw [← hW7] at hnew
  obtain ⟨a8, c8, w8, hap, hr8, hm8, hb8⟩ := RW.push W7 46 46 50 7 64 _ Try.underlying46 infoD rfl (by omega) (by omega) v m (rowD E) hr7 (dC (k, none, .slice none 0 0)) rfl (by intro u hu; simp [dC] at hu; rcases hu with rfl | rfl | rfl | rfl | rfl | rfl | rfl <;> rfl) (by omega) ⟨w.heap.size, 0, none⟩ 1 (fun j u hj => by
    rw [add_addr, Nat.zero_add]
    simp only [dC, Option.isSome_none] at hj
    exact cell_of hnew (by simpa using hj))
  have hq8 : w8.heap[q]? = some (.cells #[.int .i64 n, v] 48 (0, 0)) := (hm8.block q (Nat.lt_of_lt_of_le hql b7.size) (fun e => h.noq e rfl)).trans hq7
  have hms : Mods T w w8 := (Mods.of_below b7).trans hm8 (fun b hb => .inl (h.so b hb))
  have hrep7 : ∀ e ∈ E, RepV W7 T e.2.1 e.2.2 := fun e he => (h.rep e he).keep (fun b _ hl => b7.block b hl) (fun _ h => h)
  have hrep8 : ∀ e ∈ E, RepV w8 T e.2.1 e.2.2 := fun e he => by
    by_cases hv : ∃ b, blkV v = some b
    · obtain ⟨b, hb⟩ := hv
      obtain ⟨cur, hh⟩ := hr7.kind hb
      exact (hrep7 e he).off (g := b) ⟨cur, _, _, hh, by decide⟩ (hm8.weak (fun x hx => .inl (by rw [hb] at hx; simpa using hx.symm))) (fun _ h => h)
    · exact (hrep7 e he).keep (fun b hb hl => hm8.block b hl (fun e => hv ⟨b, e⟩)) (fun _ h => h)
  have e1 : toT (E ++ [(k, none, .slice none 0 0)]) = runT (toT E) k := by simp [toT, runT]
  have hg := h.grown (F := E ++ [(k, none, .slice none 0 0)]) (a8 := a8) (m8 := m + 1) (c8 := c8) (by simp [hm]) (by rw [rowD_app]; simpa using hr8) (fun e he => by
    rcases List.mem_append.1 he with h1 | h1
    · exact .inr h1
    · simp at h1; subst h1; exact .inl ⟨rfl, rfl⟩) (by
    rw [e1]
    unfold runT
    rw [List.map_append, List.nodup_append]
    refine ⟨h.nd, by simp, fun a ha b hb => ?_⟩
    simp at hb
    subst hb
    obtain ⟨e, he, rfl⟩ := List.mem_map.1 ha
    exact fndT_none.1 hf e he) hms hq8 (fun b hb => by
    rcases hb8 with e | ⟨x, hx, e⟩
    · rw [e] at hb; exact ⟨h.noq hb, .inl (h.so b hb)⟩
    · rw [e] at hb
      simp at hb
      have := b7.size
      exact ⟨by omega, .inr (by omega)⟩) hrep8
  exact ⟨W7, hW7, hq7, a8, c8, w8, hap, hq8, ⟨_, _, e1, hg.1⟩, hg.2⟩
end Go.Proofs.Ythgmghfegaemkaa
