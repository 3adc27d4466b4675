/- Records: a mark's bytes are read. -/
import Derived.Test.YtbfdkbdjipiliaaDoorYpA
import Derived.BigQuiet
namespace Go.Proofs.YtbfdkbdjipiliaaDoor
open Go.RowKit Go.Maps
set_option linter.unusedVariables false

theorem step_append_runY {P : Program} {ops : Array Oper} {o : Oper} {a : Act} {w : World} {K : Act → World → Prop} {Q : Exit → Act → World → Prop} {E : Prop} (hgd : o.guard = none) (s x : Operand) (t : TypeId)
    (ho : o.op = .call { callee := .builtin .append, args := #[s, x], argTypes := #[t, t] }) {v y v' : Value} {w' : World} (hs : a.eval s = v) (hx : a.eval x = y)
    (hrun : (Builtin.append_ #[t, t] o.type #[v, y]).run P w = .ok v' w') (h : K (a.put o.dst v') w') :
    if Region.wanted o (yielded ops a.tmps) = true then Oper.wp P o a w K Q else E := by
  have hw : Region.wanted o (yielded ops a.tmps) = true := by simp [Region.wanted, hgd]
  rw [if_pos hw]
  unfold Oper.wp execOp
  simp only [ho, resolve, invoke, builtin, Sem.run_bind, Sem.run_pure, Result.andThen_ok, List.map_toArray, List.map_cons, List.map_nil, hs, hx, hrun]
  exact h
/-- Where a row begins whose first k are gone. -/
def cutO (off c k : Nat) : Nat := if c = k then off else off + k
theorem cutO_is (b off c k : Nat) : (if c = k then some (⟨b, off, none⟩ : Addr) else some ⟨b, off + k, none⟩) = some ⟨b, cutO off c k, none⟩ := by
  unfold cutO; split <;> rfl
theorem Bytes.rest {w : World} {b off n c : Nat} {l : List Int} (h : Bytes w (some ⟨b, off, none⟩) l) (hn : l.length = n) (hc : n ≤ c) {k : Nat} (hk : k ≤ n) : Bytes w (some ⟨b, cutO off c k, none⟩) (l.drop k) := by
  unfold cutO
  by_cases e : c = k
  · rw [if_pos e, List.drop_eq_nil_of_le (by omega)]
    exact Bytes.nil_ _ _
  · rw [if_neg e]
    have := h.cut k n
    rwa [List.take_of_length_le (by rw [List.length_drop]; omega)] at this
section
variable {w : World} {p : Nat} {S : Nat → Prop} {s : Pc} {vm vr : Value}
/-- The mark has grown. -/
theorem RcX.mark (h : RcX w p S s vm vr) (m : List Int) (a : Option Addr) (n c : Nat) (hn : m.length = n) (hm : Bytes w a m) (hl : s.mr.length + n ≤ 900000) :
    ∃ a' c' w2, (Builtin.append_ #[27, 27] 27 #[vm, .slice a n c]).run Tryd.prog w = .ok (.slice a' (s.mr.length + n) c') w2 ∧ w2.heap[p]? = some (.cells #[vm, .int .i64 s.lf, .bool s.la, vr, .bool s.dd] 60 (0, 0)) ∧
    ∃ S', RcX (w2.setCell ⟨p, 0, none⟩ (.slice a' (s.mr.length + n) c')) p S' { s with mr := s.mr ++ m } (.slice a' (s.mr.length + n) c') vr ∧ Kp S w S' (w2.setCell ⟨p, 0, none⟩ (.slice a' (s.mr.length + n) c')) := by
  obtain ⟨a', c', w2, hap, hr2, hm2, hb2⟩ := RB.push w vm s.mr h.rm m a n c hn hm hl 27
  have hp2 : w2.heap[p]? = _ := (hm2.block p h.lt (fun e => h.nop h.rm e rfl)).trans h.box
  refine ⟨a', c', w2, hap, hp2, fun b => S b ∨ blkV (.slice a' (s.mr.length + n) c') = some b, ?_⟩
  have m3 : Mods (fun b => b = p) w2 (w2.setCell ⟨p, 0, none⟩ (.slice a' (s.mr.length + n) c')) := (Mods.refl _ w2).setCell p 0 _ rfl
  have hown : ∀ b, blkV (.slice a' (s.mr.length + n) c') = some b → blkV vm = some b ∨ w.heap.size ≤ b := fun b hb => by
    rcases hb2 with e | ⟨x, hx, e⟩
    · exact .inl (e ▸ hb)
    · rw [e] at hb; simp at hb; right; omega
  have hnp : ∀ b, blkV (.slice a' (s.mr.length + n) c') = some b → b ≠ p := fun b hb e => by
    rcases hown b hb with h1 | h1
    · exact h.nop h.rm h1 e
    · have := h.lt; omega
  have hs3 : (w2.setCell ⟨p, 0, none⟩ (.slice a' (s.mr.length + n) c')).heap.size = w2.heap.size := by simp [World.setCell]
  refine ⟨⟨setc hp2 0 _, ?_, ?_, ?_, h.ib, fun b h1 h2 => ?_, .inl h.sp, fun b hb => .inr hb, fun b hb => .inl (h.sr b hb), fun b hb => ?_⟩, ⟨fun b hb => ?_, (hm2.weak (fun b hb => .inl (h.sm b hb))).tr (m3.weak (fun b hb => .inl (by rw [hb]; exact h.sp)))⟩⟩
  · have e : (s.mr ++ m).length = s.mr.length + n := by rw [List.length_append, hn]
    have hr3 := hr2.keep (w' := w2.setCell ⟨p, 0, none⟩ (.slice a' (s.mr.length + n) c')) (fun b hb => m3.block b (hr2.lt hb) (hnp b hb))
    exact hr3
  · exact h.rr.keep (fun b hb => (m3.block b (Nat.lt_of_lt_of_le (h.rr.lt hb) hm2.size) (h.nop h.rr hb)).trans (hm2.block b (h.rr.lt hb) (fun e => h.ne b e hb)))
  · intro x hx
    rcases List.mem_append.1 hx with h1 | h1
    · exact h.im x h1
    · exact hm.isB x h1
  · rcases hown b h1 with h3 | h3
    · exact h.ne b h3 h2
    · have := h.rr.lt h2; omega
  · rw [hs3]
    rcases hb with h1 | h1
    · exact Nat.lt_of_lt_of_le (h.slt b h1) hm2.size
    · exact hr2.lt h1
  · rcases hb with h1 | h1
    · exact .inl h1
    · rcases hown b h1 with h2 | h2
      · exact .inl (h.sm b h2)
      · exact .inr h2
/-- The record has grown. -/
theorem RcX.body (h : RcX w p S s vm vr) (m : List Int) (a : Option Addr) (n c : Nat) (hn : m.length = n) (hm : Bytes w a m) (hl : s.b.length + n ≤ 900000) :
    ∃ a' c' w2, (Builtin.append_ #[27, 27] 27 #[vr, .slice a n c]).run Tryd.prog w = .ok (.slice a' (s.b.length + n) c') w2 ∧ w2.heap[p]? = some (.cells #[vm, .int .i64 s.lf, .bool s.la, vr, .bool s.dd] 60 (0, 0)) ∧
    ∃ S', RcX (w2.setCell ⟨p, 3, none⟩ (.slice a' (s.b.length + n) c')) p S' { s with b := s.b ++ m } vm (.slice a' (s.b.length + n) c') ∧ Kp S w S' (w2.setCell ⟨p, 3, none⟩ (.slice a' (s.b.length + n) c')) := by
  obtain ⟨a', c', w2, hap, hr2, hm2, hb2⟩ := RB.push w vr s.b h.rr m a n c hn hm hl 27
  have hp2 : w2.heap[p]? = _ := (hm2.block p h.lt (fun e => h.nop h.rr e rfl)).trans h.box
  refine ⟨a', c', w2, hap, hp2, fun b => S b ∨ blkV (.slice a' (s.b.length + n) c') = some b, ?_⟩
  have m3 : Mods (fun b => b = p) w2 (w2.setCell ⟨p, 3, none⟩ (.slice a' (s.b.length + n) c')) := (Mods.refl _ w2).setCell p 3 _ rfl
  have hown : ∀ b, blkV (.slice a' (s.b.length + n) c') = some b → blkV vr = some b ∨ w.heap.size ≤ b := fun b hb => by
    rcases hb2 with e | ⟨x, hx, e⟩
    · exact .inl (e ▸ hb)
    · rw [e] at hb; simp at hb; right; omega
  have hnp : ∀ b, blkV (.slice a' (s.b.length + n) c') = some b → b ≠ p := fun b hb e => by
    rcases hown b hb with h1 | h1
    · exact h.nop h.rr h1 e
    · have := h.lt; omega
  have hs3 : (w2.setCell ⟨p, 3, none⟩ (.slice a' (s.b.length + n) c')).heap.size = w2.heap.size := by simp [World.setCell]
  refine ⟨⟨setc hp2 3 _, ?_, ?_, h.im, ?_, fun b h1 h2 => ?_, .inl h.sp, fun b hb => .inl (h.sm b hb), fun b hb => .inr hb, fun b hb => ?_⟩, ⟨fun b hb => ?_, (hm2.weak (fun b hb => .inl (h.sr b hb))).tr (m3.weak (fun b hb => .inl (by rw [hb]; exact h.sp)))⟩⟩
  · exact h.rm.keep (fun b hb => (m3.block b (Nat.lt_of_lt_of_le (h.rm.lt hb) hm2.size) (h.nop h.rm hb)).trans (hm2.block b (h.rm.lt hb) (fun e => h.ne b hb e)))
  · exact hr2.keep (w' := w2.setCell ⟨p, 3, none⟩ (.slice a' (s.b.length + n) c')) (fun b hb => m3.block b (hr2.lt hb) (hnp b hb))
  · intro x hx
    rcases List.mem_append.1 hx with h1 | h1
    · exact h.ib x h1
    · exact hm.isB x h1
  · rcases hown b h2 with h3 | h3
    · exact h.ne b h1 h3
    · have := h.rm.lt h1; omega
  · rw [hs3]
    rcases hb with h1 | h1
    · exact Nat.lt_of_lt_of_le (h.slt b h1) hm2.size
    · exact hr2.lt h1
  · rcases hb with h1 | h1
    · exact .inl h1
    · rcases hown b h1 with h2 | h2
      · exact .inl (h.sr b h2)
      · exact .inr h2
end
end Go.Proofs.YtbfdkbdjipiliaaDoor
