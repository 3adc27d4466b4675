/- Rows of numbers of a law's own that are cut at their head and appended to. -/
import Derived.Test.YtdfnfcimajomeaaCcFrame
import Derived.ArgAppend
namespace Go.Proofs.Ytdfnfcimajomeaa
open Go.RowKit

def blk : Value → Option Nat
  | .slice (some a) _ _ => some a.block
  | _ => none
/-- v is a slice of the numbers l, at some place of a block. -/
def QRow (w : World) (v : Value) (l : List Int) : Prop :=
  (v = .slice none 0 0 ∧ l = []) ∨ ∃ b off cap cur, v = .slice (some ⟨b, off, none⟩) l.length cap ∧ l.length ≤ cap ∧ cap ≤ maxLen ∧ w.heap[b]? = some (.cells cur 3 (0, 0)) ∧ off + cap ≤ cur.size ∧ ∀ i, i < l.length → cur[off + i]? = some (.int .i64 (l.getD i 0))
theorem QRow.nil (w : World) : QRow w (.slice none 0 0) [] := .inl ⟨rfl, rfl⟩
theorem QRow.keep {w w' : World} {v : Value} {l : List Int} (h : QRow w v l) (hk : ∀ b, blk v = some b → w'.heap[b]? = w.heap[b]?) : QRow w' v l := by
  rcases h with h | ⟨b, off, cap, cur, rfl, h1, h2, h3, h4⟩
  · exact .inl h
  · exact .inr ⟨b, off, cap, cur, rfl, h1, h2, (hk b rfl).trans h3, h4⟩
theorem QRow.shape {w : World} {v : Value} {l : List Int} (h : QRow w v l) : ∃ a c, v = .slice a l.length c := by
  rcases h with ⟨rfl, rfl⟩ | ⟨b, off, cap, cur, rfl, _⟩
  · exact ⟨_, _, rfl⟩
  · exact ⟨_, _, rfl⟩
theorem QRow.lt {w : World} {v : Value} {l : List Int} (h : QRow w v l) {b : Nat} (hb : blk v = some b) : b < w.heap.size := by
  rcases h with ⟨rfl, rfl⟩ | ⟨b', off, cap, cur, rfl, _, _, h3, _⟩
  · cases hb
  · simp [blk] at hb
    subst hb
    exact (Array.getElem?_eq_some_iff.1 h3).1
theorem QRow.open_ {w : World} {v : Value} {l : List Int} (h : QRow w v l) (hp : 0 < l.length) : ∃ b off cap, v = .slice (some ⟨b, off, none⟩) l.length cap ∧ l.length ≤ cap ∧ ∀ i, i < l.length → w.cell? ⟨b, off + i, none⟩ = some (.int .i64 (l.getD i 0)) := by
  rcases h with ⟨rfl, rfl⟩ | ⟨b, off, cap, cur, rfl, h1, h2, h3, h4, h5⟩
  · simp at hp
  · refine ⟨b, off, cap, rfl, h1, fun i hi => ?_⟩
    unfold World.cell?
    simp [h3, h5 i hi]
theorem setCells_block {b : Nat} {t : TypeId} : ∀ (vs : List Value) (o : Nat) (w : World) (cur : Array Value), w.heap[b]? = some (.cells cur t (0, 0)) → ∃ cur', (w.setCells b o vs).heap[b]? = some (.cells cur' t (0, 0)) ∧ cur'.size = cur.size
  | [], _, _, cur, h => ⟨cur, h, rfl⟩
  | v :: r, o, w, cur, h => by
    obtain ⟨c, h1, h2⟩ := setCells_block r (o + 1) _ _ (setc h o v)
    exact ⟨c, h1, by simpa using h2⟩
theorem cell_get {w : World} {b : Nat} {c : Array Value} {t : TypeId} (h : w.heap[b]? = some (.cells c t (0, 0))) (i : Nat) : c[i]? = w.cell? ⟨b, i, none⟩ := by
  unfold World.cell?
  simp [h]
/-- 'append'. -/
theorem QRow.app {w : World} {v : Value} {l : List Int} (h : QRow w v l) (sb m c : Nat) (news : List Int) (hm : news.length = m) (hm0 : 0 < m) (hcell : ∀ i, i < m → w.cell? ⟨sb, i, none⟩ = some (.int .i64 (news.getD i 0))) (hl : l.length + m ≤ 65536) (ty : TypeId) :
    ∃ v' w', (Builtin.append_ #[35, 35] ty #[v, .slice (some ⟨sb, 0, none⟩) m c]).run Try.prog w = .ok v' w' ∧ QRow w' v' (l ++ news) ∧ Mods (fun b => blk v = some b) w w' ∧ (∀ b, blk v' = some b → blk v = some b ∨ w.heap.size ≤ b) := by
  obtain ⟨i0, hi, hz0, hz1, hz2⟩ := info3b
  have hln : (news.map fun x => Value.int .i64 x).length = m * 1 := by simp [hm]
  have hnews : ∀ j u, (news.map fun x => Value.int .i64 x)[j]? = some u → w.cell? ((⟨sb, 0, none⟩ : Addr).add j) = some u := fun j u hj => by
    have hj2 : j < news.length := by have := (List.getElem?_eq_some_iff.1 hj).1; simpa using this
    rw [add_addr, Nat.zero_add, hcell j (by omega)]
    simp [hj2] at hj
    simp [List.getD, hj2, hj]
  have hone : ∀ u ∈ news.map fun x => Value.int .i64 x, u.oneCell' = true := fun u hu => by simp at hu; obtain ⟨_, _, rfl⟩ := hu; rfl
  have own_q : ∀ {w' : World} {v' : Value}, w'.ownsRow w.heap.size 3 1 v' (l.length + m) ((l.map fun x => Value.int .i64 x) ++ (news.map fun x => Value.int .i64 x)) → QRow w' v' (l ++ news) ∧ ∀ b, blk v' = some b → w.heap.size ≤ b := fun {w' v'} ho => by
    rcases ho.2 with ⟨_, h0⟩ | ⟨g, cap, cur, rfl, hb, hh, hc1, hc2, hcs, ht⟩
    · omega
    · refine ⟨.inr ⟨g, 0, cap, cur, by rw [List.length_append, hm], by rw [List.length_append, hm]; exact hc1, hc2, hh, by omega, fun i hi => ?_⟩, fun b e => by simp [blk] at e; omega⟩
      have e : (cur.toList.take ((l.length + m) * 1))[i]? = ((l.map fun x => Value.int .i64 x) ++ (news.map fun x => Value.int .i64 x))[i]? := by rw [ht]
      rw [List.length_append, hm] at hi
      rw [List.getElem?_take, if_pos (by omega), ← List.map_append, List.getElem?_map] at e
      rw [Nat.zero_add, ← Array.getElem?_toList, e, show (l ++ news)[i]? = some ((l ++ news).getD i 0) by simp only [List.getD]; rw [List.getElem?_eq_getElem (by rw [List.length_append, hm]; exact hi)]; rfl]
      rfl
  rcases h with ⟨rfl, rfl⟩ | ⟨b, off, cap, cur, rfl, h1, h2, h3, h4, h5⟩
  · obtain ⟨v', w', hr, ho, hg, _, _⟩ := run_append_own_at (P := Try.prog) w w.heap.size 35 ty 3 i0 _ 1 8 Try.underlying35 hi hz0 hz1 hz2 rfl (by decide) (.slice none 0 0) 0 [] ⟨rfl, .inl ⟨rfl, rfl⟩⟩ ⟨sb, 0, none⟩ m c (news.map fun x => Value.int .i64 x) hln hnews hone (by simp at hl; unfold maxLen; omega) (by simp at hl; omega) (Nat.le_refl _)
    obtain ⟨q1, q2⟩ := own_q (by simpa using ho)
    refine ⟨v', w', hr, q1, ⟨hg.os, hg.tape, hg.output, hg.size, fun b hb _ => hg.block b hb (fun e => by simp [Value.ownBlock] at e)⟩, fun b e => .inr (q2 b e)⟩
  · by_cases hroom : l.length + m ≤ cap
    · have hfit : off + l.length + m ≤ cur.size := by omega
      have hr := run_append_room_cells (P := Try.prog) w 35 ty 3 i0 Try.underlying35 hi b off l.length cap ⟨sb, 0, none⟩ m c (news.map fun x => Value.int .i64 x) (by rw [hz1]; exact hln) hnews hone hroom (fun j hj => by
        rw [hz1, Nat.mul_one]
        unfold World.cell?
        simp at hj
        simp [h3]
        omega) (fun j hj => by simp [World.frozen?, h3])
      rw [hz1, Nat.mul_one] at hr
      refine ⟨_, _, hr, ?_, ?_, fun b' e => .inl (by simpa [blk] using e)⟩
      · obtain ⟨cur', hb, hcs⟩ := setCells_block (news.map fun x => Value.int .i64 x) (off + l.length) w cur h3
        refine .inr ⟨b, off, cap, cur', by rw [List.length_append, hm], by rw [List.length_append, hm]; exact hroom, h2, hb, by omega, fun i hi => ?_⟩
        rw [List.length_append, hm] at hi
        rw [cell_get hb]
        by_cases e : i < l.length
        · rw [World.cell?_setCells_out b _ _ _ _ (fun _ _ => .inl (by show off + i < off + l.length; omega)), ← cell_get h3, h5 i e]
          simp [List.getD, List.getElem?_append_left e]
        · have := World.cell?_setCells_in b (news.map fun x => Value.int .i64 x) (off + l.length) w (fun j hj => by
            rw [← cell_get h3]
            simp at hj
            simp
            omega) (i - l.length) (by simp; omega)
          rw [show off + l.length + (i - l.length) = off + i by omega] at this
          rw [this]
          simp only [List.getD, List.getElem_map]
          rw [List.getElem?_append_right (by omega), List.getElem?_eq_getElem (by omega)]
          rfl
      · exact (setCells_mods _ _ w _).weak (fun b' e => .inl (by simp [blk, e]))
    · have hro : ∀ j u, (l.map fun x => Value.int .i64 x)[j]? = some u → w.cell? ((⟨b, off, none⟩ : Addr).add j) = some u := fun j u hj => by
        have hj2 : j < l.length := by have := (List.getElem?_eq_some_iff.1 hj).1; simpa using this
        rw [add_addr]
        unfold World.cell?
        simp [h3, h5 j hj2]
        simp [hj2] at hj
        simp [hj2, hj]
      obtain ⟨v', w', hr, ho, hg⟩ := run_append_arg_grows (P := Try.prog) w 35 ty 3 i0 _ 1 8 Try.underlying35 hi hz0 hz1 hz2 rfl (by decide) ⟨b, off, none⟩ l.length cap (l.map fun x => Value.int .i64 x) (by simp) hro ⟨sb, 0, none⟩ m c (news.map fun x => Value.int .i64 x) hln hnews (by omega) (by unfold maxLen; omega) (by omega)
      obtain ⟨q1, q2⟩ := own_q ho
      exact ⟨v', w', hr, q1, ⟨hg.os, hg.tape, hg.output, hg.size, fun b hb _ => hg.block b hb (fun e => by cases e)⟩, fun b e => .inr (q2 b e)⟩

/-- What a slice is behind its first elements. -/
def behind (g off len cap lo : Nat) : Value := .slice (some ⟨g, if cap = lo then off else off + lo, none⟩) (len - lo) (cap - lo)
set_option maxRecDepth 100000 in
theorem cutQ_run (g off len cap lo : Nat) (h : lo ≤ len) (W : World) : (Instr.slice 35 (.slice (some ⟨g, off, none⟩) len cap) (some (.int .i64 lo)) none none).run Try.prog W = .ok (behind g off len cap lo) W := by
  have hz : (sizeOf 3).run Try.prog W = .ok 1 W := by kernel_rfl
  rw [run_slice_l (P := Try.prog) W 35 (some ⟨g, off, none⟩) len cap Try.underlying35 .i64 lo (by omega) (by omega)]
  have e : Try.prog.elem 35 = 3 := by kernel_rfl
  rw [e, hz]
  unfold behind
  by_cases h2 : cap = lo
  · simp [sliced, h2]
  · simp [sliced, Addr.add, h2]
theorem QRow.tail {w : World} {b off cap n : Nat} {l : List Int} (h : QRow w (.slice (some ⟨b, off, none⟩) n cap) l) (hn : n = l.length) (lo : Nat) (hlo : lo ≤ l.length) : QRow w (behind b off n cap lo) (l.drop lo) ∧ blk (behind b off n cap lo) = some b := by
  subst hn
  rcases h with ⟨e, _⟩ | ⟨b', off', cap', cur, e, h1, h2, h3, h4, h5⟩
  · cases e
  · simp only [Value.slice.injEq, Option.some.injEq, Addr.mk.injEq] at e
    obtain ⟨⟨rfl, rfl, _⟩, _, rfl⟩ := e
    refine ⟨.inr ⟨b, _, cap - lo, cur, by rw [List.length_drop]; rfl, by rw [List.length_drop]; omega, by omega, h3, ?_, fun i hi => ?_⟩, rfl⟩
    · split <;> omega
    · rw [List.length_drop] at hi
      rw [if_neg (by omega), Nat.add_assoc, h5 (lo + i) (by omega)]
      simp [List.getD]


/-- A row of the law's own. -/
def Lq (w0 w : World) (S : Nat → Prop) (v : Value) (l : List Int) : Prop := QRow w v l ∧ ∀ b, blk v = some b → ¬ S b ∧ w0.heap.size ≤ b
theorem Lq.nil (w0 w : World) (S : Nat → Prop) : Lq w0 w S (.slice none 0 0) [] := ⟨QRow.nil w, fun b e => by cases e⟩
theorem Lq.keep {w0 w w' : World} {S S' : Nat → Prop} {v : Value} {l : List Int} (h : Lq w0 w S v l) (hk : Kp S w S' w') : Lq w0 w' S' v l :=
  ⟨h.1.keep (fun b e => hk.block (h.1.lt e) (h.2 b e).1), fun b e => ⟨hk.off (h.1.lt e) (h.2 b e).1, (h.2 b e).2⟩⟩
theorem Lq.mods {w0 w w' : World} {S : Nat → Prop} {v : Value} {l : List Int} (h : Lq w0 w S v l) {P : Nat → Prop} (hm : Mods P w w') (hn : ∀ b, blk v = some b → ¬ P b) : Lq w0 w' S v l :=
  ⟨h.1.keep (fun b e => hm.block b (h.1.lt e) (hn b e)), h.2⟩
/-- A number is put behind it. -/
theorem Lq.push {w0 w : World} {S : Nat → Prop} {v : Value} {l : List Int} (h : Lq w0 w S v l) (hS : ∀ b, S b → b < w.heap.size) (h0 : w0.heap.size ≤ w.heap.size) (hl : l.length ≤ 1000) (x : Int) :
    ∃ a n c w', (Builtin.append_ #[35, 35] 35 #[v, .slice (some ⟨w.heap.size, 0, none⟩) 1 1]).run Try.prog (w.alloc (.cells #[.int .i64 x] 3)) = .ok (.slice a n c) w' ∧ Lq w0 w' S (.slice a n c) (l ++ [x]) ∧ n = l.length + 1 ∧ Mods (fun b => blk v = some b) w w' ∧ (∀ b, blk (.slice a n c) = some b → blk v = some b ∨ w.heap.size < b) := by
  have hb1 : Below w.heap.size w (w.alloc (.cells #[.int .i64 x] 3)) := (Below.refl _ _).alloc (Nat.le_refl _) _
  have hs1 : (w.alloc (.cells #[.int .i64 x] 3)).heap.size = w.heap.size + 1 := by simp
  have hq1 : QRow (w.alloc (.cells #[.int .i64 x] 3)) v l := h.1.keep (fun b e => hb1.block b (h.1.lt e))
  obtain ⟨v', w', hap, hq, hm, hv⟩ := hq1.app w.heap.size 1 1 [x] rfl (by omega) (fun i hi => by
    obtain rfl : i = 0 := by omega
    exact cell_of (alloc_new w _) rfl) (by omega) 35
  obtain ⟨a, c, rfl⟩ := hq.shape
  have hv2 : ∀ b, blk (.slice a (l ++ [x]).length c) = some b → blk v = some b ∨ w.heap.size < b := fun b e => by
    rcases hv b e with e | e
    · exact .inl e
    · exact .inr (by omega)
  refine ⟨a, (l ++ [x]).length, c, w', hap, ⟨hq, fun b e => ?_⟩, by simp, (Mods.of_below hb1).tr hm, hv2⟩
  rcases hv2 b e with e2 | e2
  · exact h.2 b e2
  · exact ⟨fun e3 => by have := hS b e3; omega, by omega⟩
/-- Its first one is cut off. -/
theorem Lq.tail {w0 w : World} {S : Nat → Prop} {a : Option Addr} {n c : Nat} {l : List Int} (h : Lq w0 w S (.slice a n c) l) (hp : 0 < l.length) : ∃ b off, a = some ⟨b, off, none⟩ ∧ n = l.length ∧ (Instr.slice 35 (.slice (some ⟨b, off, none⟩) n c) (some (.int .i64 1)) none none).run Try.prog w = .ok (behind b off n c 1) w ∧ Lq w0 w S (behind b off n c 1) l.tail := by
  obtain ⟨b, off, cap, e, hc, _⟩ := h.1.open_ hp
  simp only [Value.slice.injEq] at e
  obtain ⟨rfl, rfl, rfl⟩ := e
  obtain ⟨h1, h2⟩ := h.1.tail rfl 1 (by omega)
  rw [List.drop_one] at h1
  exact ⟨b, off, rfl, rfl, cutQ_run b off l.length c 1 (by omega) w, h1, fun b' e => h.2 b' (by rw [h2] at e; simpa [blk] using e)⟩
theorem wpList_slice_run {P : Program} {w : World} {ops : Array Oper} {rest : List Oper} {o : Oper} {a : Act} {Q : Exit → Act → World → Prop} (hgd : o.guard = none) (t : TypeId) (x lo : Operand) {et : TypeId} (ht : P.underlying t = some (.slice et))
    (ho : o.op = .slice t x (some lo) none none) {lv v' : Value} {w' : World} {a0 : Option Addr} {n c : Nat} (hx : a.eval x = .slice a0 n c) (hl : a.eval lo = lv)
    (hrun : (Instr.slice t (.slice a0 n c) (some lv) none none).run P w = .ok v' w') (h : wpList P ops Q rest (a.put o.dst v') w') : wpList P ops Q (o :: rest) a w := by
  refine wpList_plain hgd fun K hK => ?_
  unfold Oper.wp execOp
  simp only [ho, Instr.sliceAt, Sem.run_bind, Sem.run_pure, Result.andThen_ok, Option.map_some, Option.map_none, hx, hl, run_underlying ht, hrun]
  exact hK _ _ h
end Go.Proofs.Ytdfnfcimajomeaa
