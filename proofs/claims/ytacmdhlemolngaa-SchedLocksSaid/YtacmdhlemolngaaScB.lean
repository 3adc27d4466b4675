/- A Sched: its workers, its queue, who sleeps, who holds and waits, the clock. -/
import Derived.Test.YtacmdhlemolngaaScA
namespace Go.Proofs.Ytacmdhlemolngaa
open Go.RowKit Go.Maps

/-- A task: none, or a pointer of some type. -/
def tv : Option (TypeId × Nat) → Value
  | none => .nilIface
  | some (T, b) => .iface T (.pointer (some ⟨b, 0, none⟩))
theorem tv_cases (t : Option (TypeId × Nat)) : tv t = .nilIface ∨ ∃ T b, t = some (T, b) ∧ tv t = .iface T (.pointer (some ⟨b, 0, none⟩)) := by
  cases t with
  | none => exact .inl rfl
  | some t => exact .inr ⟨t.1, t.2, rfl, rfl⟩
structure Wk where
  t : Option (TypeId × Nat)
  st : Int
  row : Int
structure Ab where
  ws : List Wk
  q : List Int
  sl : Int → List Int
  lk : Int → List Int
  now : Int
  al : List (Int × Int)
  stp : Bool
def wkC (k : Wk) : List Value := [tv k.t, .int .i64 k.st, .int .i64 k.row]
def wks (l : List Wk) : List Value := l.flatMap wkC
def alC (a : Int × Int) : List Value := [.int .i64 a.1, .int .u64 a.2]
def als (l : List (Int × Int)) : List Value := l.flatMap alC
def boxC (A : Ab) (vw vq va : Value) (bs bl : Nat) : Array Value := #[vw, vq, .map (some bs), .map (some bl), .int .u64 A.now, va, .bool A.stp]
structure ScAt (w : World) (p : Nat) (lab : Nat → Own) (A : Ab) (n : Nat) (vw vq va : Value) (bs bl : Nat) (MS ML : Int → Option Value) : Prop where
  lt : ∀ b, lab b ≠ .no → b < w.heap.size
  box : w.heap[p]? = some (.cells (boxC A vw vq va bs bl) 90 (0, 0))
  lp : lab p = .box
  cw : Rw w lab .ws 94 3 vw A.ws.length (wks A.ws)
  cq : RI w lab .qu vq A.q
  ca : Rw w lab .al 124 2 va A.al.length (als A.al)
  cs : Mp w lab .ms .sl bs n MS A.sl
  cl : Mp w lab .ml .lk bl n ML A.lk
def Sc (w : World) (p : Nat) (lab : Nat → Own) (A : Ab) (n : Nat) : Prop := ∃ vw vq va bs bl MS ML, ScAt w p lab A n vw vq va bs bl MS ML

def Keep (lab : Nat → Own) (w : World) (lab' : Nat → Own) (w' : World) : Prop := (∀ b, b < w.heap.size → lab' b = lab b) ∧ Mods (fun b => lab b ≠ .no) w w'
theorem Keep.refl (lab : Nat → Own) (w : World) : Keep lab w lab w := ⟨fun _ _ => rfl, Mods.refl _ _⟩
theorem Keep.trans {lab lab' lab'' : Nat → Own} {w w' w'' : World} (h : Keep lab w lab' w') (h' : Keep lab' w' lab'' w'') : Keep lab w lab'' w'' :=
  ⟨fun b hb => (h'.1 b (Nat.lt_of_lt_of_le hb h.2.size)).trans (h.1 b hb), h.2.trans h'.2 (fun b hb => by
    by_cases e : b < w.heap.size
    · exact .inl (by rw [← h.1 b e]; exact hb)
    · exact .inr (by omega))⟩
theorem Keep.size {lab lab' : Nat → Own} {w w' : World} (h : Keep lab w lab' w') : w.heap.size ≤ w'.heap.size := h.2.size
theorem Keep.block {lab lab' : Nat → Own} {w w' : World} (h : Keep lab w lab' w') {b : Nat} (hb : b < w.heap.size) (h0 : lab b = .no) : w'.heap[b]? = w.heap[b]? := h.2.block b hb (fun e => e h0)
theorem Keep.below {lab : Nat → Own} {w w' : World} (h : Below w.heap.size w w') : Keep lab w lab w' := ⟨fun _ _ => rfl, Mods.of_below h⟩
theorem Keep.cell {lab lab' : Nat → Own} {w w' : World} (h : Keep lab w lab' w') {b o : Nat} {v : Value} (hc : w.cell? ⟨b, o, none⟩ = some v) (h0 : lab b = .no) : w'.cell? ⟨b, o, none⟩ = some v := h.2.cell hc (fun e => e h0)
theorem Keep.lab {lab lab' : Nat → Own} {w w' : World} (h : Keep lab w lab' w') {b : Nat} (hb : b < w.heap.size) (h0 : lab b = .no) : lab' b = .no := (h.1 b hb).trans h0
theorem Keep.extra {lab lab1 : Nat → Own} {w w1 w2 : World} (h : Keep lab w lab1 w1) {P : Nat → Prop} (hm : Mods P w1 w2) (hP : ∀ b, P b → w.heap.size ≤ b) : Keep lab w lab1 w2 := ⟨h.1, h.2.trans hm (fun b hb => .inr (hP b hb))⟩
theorem Keep.mods {lab lab' : Nat → Own} {w w1 w2 : World} {P : Nat → Prop} (h : Mods P w w1) (hP : ∀ b, P b → w.heap.size ≤ b) (h2 : Keep lab w1 lab' w2) : Keep lab w lab' w2 :=
  ⟨fun b hb => h2.1 b (Nat.lt_of_lt_of_le hb h.size), (h.weak (al' := fun b => lab b ≠ .no) (fun b e => .inr (hP b e))).tr h2.2⟩

open Classical in
noncomputable def relab (w : World) (lab : Nat → Own) (P : Nat → Prop) (o : Own) (b : Nat) : Own := if b < w.heap.size then lab b else if P b then o else .no
section
variable {w w' : World} {lab : Nat → Own} {P : Nat → Prop} {o : Own} {b : Nat}
theorem relab_old (h : b < w.heap.size) : relab w lab P o b = lab b := by unfold relab; rw [if_pos h]
theorem relab_yes (h : w.heap.size ≤ b) (hb : P b) : relab w lab P o b = o := by unfold relab; rw [if_neg (by omega), if_pos hb]
theorem relab_lt (_hlt : ∀ b, lab b ≠ .no → b < w.heap.size) (hs : w.heap.size ≤ w'.heap.size) (hP : ∀ b, P b → b < w'.heap.size) (hb : relab w lab P o b ≠ .no) : b < w'.heap.size := by
  by_cases e : b < w.heap.size
  · omega
  · unfold relab at hb
    rw [if_neg e] at hb
    split at hb
    · rename_i h; exact hP b h
    · exact absurd rfl hb
theorem relab_lab (hlt : ∀ b, lab b ≠ .no → b < w.heap.size) {c : Own} (hc : c ≠ .no) (hb : lab b = c) : relab w lab P o b = c := by
  rw [relab_old (hlt b (by rw [hb]; exact hc))]; exact hb
end
section
variable {w w' : World} {p n : Nat} {lab : Nat → Own} {A : Ab} {vw vq va : Value} {bs bl : Nat} {MS ML : Int → Option Value}
theorem ScAt.cells (h : ScAt w p lab A n vw vq va bs bl MS ML) : w.cell? ⟨p, 0, none⟩ = some vw ∧ w.cell? ⟨p, 1, none⟩ = some vq ∧ w.cell? ⟨p, 2, none⟩ = some (.map (some bs)) ∧ w.cell? ⟨p, 3, none⟩ = some (.map (some bl)) ∧ w.cell? ⟨p, 4, none⟩ = some (.int .u64 A.now) ∧ w.cell? ⟨p, 5, none⟩ = some va ∧ w.cell? ⟨p, 6, none⟩ = some (.bool A.stp) :=
  ⟨cell_of h.box rfl, cell_of h.box rfl, cell_of h.box rfl, cell_of h.box rfl, cell_of h.box rfl, cell_of h.box rfl, cell_of h.box rfl⟩
theorem ScAt.froz (h : ScAt w p lab A n vw vq va bs bl MS ML) (i : Nat) : w.frozen? ⟨p, i, none⟩ = false := froz_of h.box i
/-- A world in which nothing that is owned has turned. -/
theorem ScAt.keep (h : ScAt w p lab A n vw vq va bs bl MS ML) (hs : w.heap.size ≤ w'.heap.size) (hk : ∀ b, lab b ≠ .no → w'.heap[b]? = w.heap[b]?) : ScAt w' p lab A n vw vq va bs bl MS ML :=
  ⟨fun b hb => Nat.lt_of_lt_of_le (h.lt b hb) hs, (hk p (by rw [h.lp]; simp)).trans h.box, h.lp, h.cw.keep (fun b e => hk b (by rw [e]; simp)) (fun _ e => e), h.cq.keep (fun b e => hk b (by rw [e]; simp)) (fun _ e => e), h.ca.keep (fun b e => hk b (by rw [e]; simp)) (fun _ e => e),
    h.cs.keep (fun b e => hk b (by rw [e]; simp)) (fun b k e => hk b (by rw [e]; simp)) (fun _ e => e) (fun _ _ e => e), h.cl.keep (fun b e => hk b (by rw [e]; simp)) (fun b k e => hk b (by rw [e]; simp)) (fun _ e => e) (fun _ _ e => e)⟩
theorem Sc.keep (h : Sc w p lab A n) (hs : w.heap.size ≤ w'.heap.size) (hk : ∀ b, lab b ≠ .no → w'.heap[b]? = w.heap[b]?) : Sc w' p lab A n :=
  let ⟨vw, vq, va, bs, bl, MS, ML, d⟩ := h; ⟨vw, vq, va, bs, bl, MS, ML, d.keep hs hk⟩
theorem Sc.lt (h : Sc w p lab A n) : ∀ b, lab b ≠ .no → b < w.heap.size := let ⟨_, _, _, _, _, _, _, d⟩ := h; d.lt
theorem Sc.lp (h : Sc w p lab A n) : lab p = .box := let ⟨_, _, _, _, _, _, _, d⟩ := h; d.lp
theorem Sc.below (h : Sc w p lab A n) (hb : Below w.heap.size w w') : Sc w' p lab A n := h.keep hb.size (fun b e => hb.block b (h.lt b e))
theorem Sc.outside (h : Sc w p lab A n) {P : Nat → Prop} (hm : Mods P w w') (hP : ∀ b, P b → lab b = .no) : Sc w' p lab A n := h.keep hm.size (fun b e => hm.block b (h.lt b e) (fun e2 => e (hP b e2)))
theorem Mp.mono {w : World} {lab : Nat → Own} {om : Own} {own : Int → Own} {b n n' : Nat} {M : Int → Option Value} {f : Int → List Int} (h : Mp w lab om own b n M f) (hn : n ≤ n') : Mp w lab om own b n' M f := ⟨h.map.mono hn, h.lb, h.row⟩
theorem Sc.more (h : Sc w p lab A n) {n' : Nat} (hn : n ≤ n') : Sc w p lab A n' :=
  let ⟨vw, vq, va, bs, bl, MS, ML, d⟩ := h; ⟨vw, vq, va, bs, bl, MS, ML, d.lt, d.box, d.lp, d.cw, d.cq, d.ca, d.cs.mono hn, d.cl.mono hn⟩
theorem Sc.new (h : Sc w p lab A n) {b : Nat} (hb : w.heap.size ≤ b) : lab b = .no := by
  cases e : lab b <;> first | rfl | (have := h.lt b (by rw [e]; simp); omega)

/-- The queue is another row. -/
theorem ScAt.toQ (h : ScAt w p lab A n vw vq va bs bl MS ML) {v' : Value} {l' : List Int} (hb : w'.heap[p]? = some (.cells (boxC A vw v' va bs bl) 90 (0, 0))) (hr : w'.ownsRow 0 3 1 v' l'.length (ints l'))
    (hm : Mods (fun b => b = p ∨ vq.ownBlock = some b) w w') (hv : ∀ b, v'.ownBlock = some b → vq.ownBlock = some b ∨ w.heap.size ≤ b) :
    ∃ lab', ScAt w' p lab' { A with q := l' } n vw v' va bs bl MS ML ∧ Keep lab w lab' w' := by
  have hlt := h.lt
  have hP : ∀ b, (b = p ∨ vq.ownBlock = some b) → lab b = .box ∨ lab b = .qu := fun b e => e.imp (fun e => by rw [e]; exact h.lp) (fun e => h.cq.2 b e)
  have kp : ∀ b, lab b ≠ .no → lab b ≠ .box → lab b ≠ .qu → w'.heap[b]? = w.heap[b]? := fun b e1 e2 e3 => hm.block b (hlt b e1) (fun e => (hP b e).elim e2 e3)
  refine ⟨relab w lab (fun b => v'.ownBlock = some b) .qu, ⟨fun b hb2 => relab_lt hlt hm.size (fun b e => (owns_lt hr e).1) hb2, hb, relab_lab hlt (by simp) h.lp, ?_, ⟨hr, fun g hg => ?_⟩, ?_, ?_, ?_⟩, fun b hb2 => relab_old hb2, hm.weak (fun b e => .inl (by rcases hP b e with e | e <;> rw [e] <;> simp))⟩
  · exact h.cw.keep (fun b e => kp b (by rw [e]; simp) (by rw [e]; simp) (by rw [e]; simp)) (fun b e => relab_lab hlt (by simp) e)
  · rcases hv g hg with e | e
    · exact relab_lab hlt (by simp) (h.cq.2 g e)
    · exact relab_yes e hg
  · exact h.ca.keep (fun b e => kp b (by rw [e]; simp) (by rw [e]; simp) (by rw [e]; simp)) (fun b e => relab_lab hlt (by simp) e)
  · exact h.cs.keep (fun b e => kp b (by rw [e]; simp) (by rw [e]; simp) (by rw [e]; simp)) (fun b k e => kp b (by rw [e]; simp) (by rw [e]; simp) (by rw [e]; simp)) (fun b e => relab_lab hlt (by simp) e) (fun b k e => relab_lab hlt (by simp) e)
  · exact h.cl.keep (fun b e => kp b (by rw [e]; simp) (by rw [e]; simp) (by rw [e]; simp)) (fun b k e => kp b (by rw [e]; simp) (by rw [e]; simp) (by rw [e]; simp)) (fun b e => relab_lab hlt (by simp) e) (fun b k e => relab_lab hlt (by simp) e)
/-- The workers are another row. -/
theorem ScAt.toW (h : ScAt w p lab A n vw vq va bs bl MS ML) {v' : Value} {l' : List Wk} (hb : w'.heap[p]? = some (.cells (boxC A v' vq va bs bl) 90 (0, 0))) (hr : w'.ownsRow 0 94 3 v' l'.length (wks l'))
    (hm : Mods (fun b => b = p ∨ vw.ownBlock = some b) w w') (hv : ∀ b, v'.ownBlock = some b → vw.ownBlock = some b ∨ w.heap.size ≤ b) :
    ∃ lab', ScAt w' p lab' { A with ws := l' } n v' vq va bs bl MS ML ∧ Keep lab w lab' w' := by
  have hlt := h.lt
  have hP : ∀ b, (b = p ∨ vw.ownBlock = some b) → lab b = .box ∨ lab b = .ws := fun b e => e.imp (fun e => by rw [e]; exact h.lp) (fun e => h.cw.2 b e)
  have kp : ∀ b, lab b ≠ .no → lab b ≠ .box → lab b ≠ .ws → w'.heap[b]? = w.heap[b]? := fun b e1 e2 e3 => hm.block b (hlt b e1) (fun e => (hP b e).elim e2 e3)
  refine ⟨relab w lab (fun b => v'.ownBlock = some b) .ws, ⟨fun b hb2 => relab_lt hlt hm.size (fun b e => (owns_lt hr e).1) hb2, hb, relab_lab hlt (by simp) h.lp, ⟨hr, fun g hg => ?_⟩, ?_, ?_, ?_, ?_⟩, fun b hb2 => relab_old hb2, hm.weak (fun b e => .inl (by rcases hP b e with e | e <;> rw [e] <;> simp))⟩
  · rcases hv g hg with e | e
    · exact relab_lab hlt (by simp) (h.cw.2 g e)
    · exact relab_yes e hg
  · exact h.cq.keep (fun b e => kp b (by rw [e]; simp) (by rw [e]; simp) (by rw [e]; simp)) (fun b e => relab_lab hlt (by simp) e)
  · exact h.ca.keep (fun b e => kp b (by rw [e]; simp) (by rw [e]; simp) (by rw [e]; simp)) (fun b e => relab_lab hlt (by simp) e)
  · exact h.cs.keep (fun b e => kp b (by rw [e]; simp) (by rw [e]; simp) (by rw [e]; simp)) (fun b k e => kp b (by rw [e]; simp) (by rw [e]; simp) (by rw [e]; simp)) (fun b e => relab_lab hlt (by simp) e) (fun b k e => relab_lab hlt (by simp) e)
  · exact h.cl.keep (fun b e => kp b (by rw [e]; simp) (by rw [e]; simp) (by rw [e]; simp)) (fun b k e => kp b (by rw [e]; simp) (by rw [e]; simp) (by rw [e]; simp)) (fun b e => relab_lab hlt (by simp) e) (fun b k e => relab_lab hlt (by simp) e)
/-- The clock. -/
theorem ScAt.toA (h : ScAt w p lab A n vw vq va bs bl MS ML) {v' : Value} {l' : List (Int × Int)} {now' : Int} (hb : w'.heap[p]? = some (.cells (boxC { A with now := now' } vw vq v' bs bl) 90 (0, 0))) (hr : w'.ownsRow 0 124 2 v' l'.length (als l'))
    (hm : Mods (fun b => b = p ∨ va.ownBlock = some b) w w') (hv : ∀ b, v'.ownBlock = some b → va.ownBlock = some b ∨ w.heap.size ≤ b) :
    ∃ lab', ScAt w' p lab' { A with al := l', now := now' } n vw vq v' bs bl MS ML ∧ Keep lab w lab' w' := by
  have hlt := h.lt
  have hP : ∀ b, (b = p ∨ va.ownBlock = some b) → lab b = .box ∨ lab b = .al := fun b e => e.imp (fun e => by rw [e]; exact h.lp) (fun e => h.ca.2 b e)
  have kp : ∀ b, lab b ≠ .no → lab b ≠ .box → lab b ≠ .al → w'.heap[b]? = w.heap[b]? := fun b e1 e2 e3 => hm.block b (hlt b e1) (fun e => (hP b e).elim e2 e3)
  refine ⟨relab w lab (fun b => v'.ownBlock = some b) .al, ⟨fun b hb2 => relab_lt hlt hm.size (fun b e => (owns_lt hr e).1) hb2, hb, relab_lab hlt (by simp) h.lp, ?_, ?_, ⟨hr, fun g hg => ?_⟩, ?_, ?_⟩, fun b hb2 => relab_old hb2, hm.weak (fun b e => .inl (by rcases hP b e with e | e <;> rw [e] <;> simp))⟩
  · exact h.cw.keep (fun b e => kp b (by rw [e]; simp) (by rw [e]; simp) (by rw [e]; simp)) (fun b e => relab_lab hlt (by simp) e)
  · exact h.cq.keep (fun b e => kp b (by rw [e]; simp) (by rw [e]; simp) (by rw [e]; simp)) (fun b e => relab_lab hlt (by simp) e)
  · rcases hv g hg with e | e
    · exact relab_lab hlt (by simp) (h.ca.2 g e)
    · exact relab_yes e hg
  · exact h.cs.keep (fun b e => kp b (by rw [e]; simp) (by rw [e]; simp) (by rw [e]; simp)) (fun b k e => kp b (by rw [e]; simp) (by rw [e]; simp) (by rw [e]; simp)) (fun b e => relab_lab hlt (by simp) e) (fun b k e => relab_lab hlt (by simp) e)
  · exact h.cl.keep (fun b e => kp b (by rw [e]; simp) (by rw [e]; simp) (by rw [e]; simp)) (fun b k e => kp b (by rw [e]; simp) (by rw [e]; simp) (by rw [e]; simp)) (fun b e => relab_lab hlt (by simp) e) (fun b k e => relab_lab hlt (by simp) e)
/-- 'stepping' is set. -/
theorem ScAt.toStp (h : ScAt w p lab A n vw vq va bs bl MS ML) (s : Bool) (hw : w' = w.setCell ⟨p, 6, none⟩ (.bool s)) : ScAt w' p lab { A with stp := s } n vw vq va bs bl MS ML ∧ Keep lab w lab w' := by
  have hm : Mods (fun b => b = p) w w' := by rw [hw]; exact (Mods.refl _ _).setCell _ _ _ rfl
  have kp : ∀ b, lab b ≠ .no → lab b ≠ .box → w'.heap[b]? = w.heap[b]? := fun b e1 e2 => hm.block b (h.lt b e1) (fun e => e2 (by rw [e]; exact h.lp))
  refine ⟨⟨fun b hb => Nat.lt_of_lt_of_le (h.lt b hb) hm.size, by rw [hw]; exact setc h.box 6 _, h.lp, h.cw.keep (fun b e => kp b (by rw [e]; simp) (by rw [e]; simp)) (fun _ e => e), h.cq.keep (fun b e => kp b (by rw [e]; simp) (by rw [e]; simp)) (fun _ e => e), h.ca.keep (fun b e => kp b (by rw [e]; simp) (by rw [e]; simp)) (fun _ e => e),
    h.cs.keep (fun b e => kp b (by rw [e]; simp) (by rw [e]; simp)) (fun b k e => kp b (by rw [e]; simp) (by rw [e]; simp)) (fun _ e => e) (fun _ _ e => e), h.cl.keep (fun b e => kp b (by rw [e]; simp) (by rw [e]; simp)) (fun b k e => kp b (by rw [e]; simp) (by rw [e]; simp)) (fun _ e => e) (fun _ _ e => e)⟩, fun _ _ => rfl, hm.weak (fun b e => .inl (by rw [e, h.lp]; simp))⟩
/-- The map of those that sleep is another one. -/
theorem ScAt.toS (h : ScAt w p lab A n vw vq va bs bl MS ML) {lab' : Nat → Own} {n' : Nat} {M' : Int → Option Value} {f' : Int → List Int} (hn : n ≤ n') (hs : Mp w' lab' .ms .sl bs n' M' f') (ho : ∀ b, b < w.heap.size → lab' b = lab b) (hl : ∀ b, lab' b ≠ .no → b < w'.heap.size)
    (hm : Mods (fun b => lab b = .ms ∨ ∃ k, lab b = .sl k) w w') : ScAt w' p lab' { A with sl := f' } n' vw vq va bs bl M' ML ∧ Keep lab w lab' w' := by
  have hlt := h.lt
  have kp : ∀ b, lab b ≠ .no → lab b ≠ .ms → (∀ k, lab b ≠ .sl k) → w'.heap[b]? = w.heap[b]? := fun b e1 e2 e3 => hm.block b (hlt b e1) (fun e => e.elim e2 (fun ⟨k, e⟩ => e3 k e))
  have old : ∀ {b : Nat} {c : Own}, c ≠ .no → lab b = c → lab' b = c := fun {b c} hc e => by rw [ho b (hlt b (by rw [e]; exact hc))]; exact e
  refine ⟨⟨hl, (kp p (by rw [h.lp]; simp) (by rw [h.lp]; simp) (by rw [h.lp]; simp)).trans h.box, old (by simp) h.lp, h.cw.keep (fun b e => kp b (by rw [e]; simp) (by rw [e]; simp) (by rw [e]; simp)) (fun b e => old (by simp) e), h.cq.keep (fun b e => kp b (by rw [e]; simp) (by rw [e]; simp) (by rw [e]; simp)) (fun b e => old (by simp) e), h.ca.keep (fun b e => kp b (by rw [e]; simp) (by rw [e]; simp) (by rw [e]; simp)) (fun b e => old (by simp) e),
    hs, ((h.cl.mono hn).keep (fun b e => kp b (by rw [e]; simp) (by rw [e]; simp) (by rw [e]; simp)) (fun b k e => kp b (by rw [e]; simp) (by rw [e]; simp) (by rw [e]; simp)) (fun b e => old (by simp) e) (fun b k e => old (by simp) e))⟩, ho, hm.weak (fun b e => .inl ?_)⟩
  rcases e with e | ⟨k, e⟩ <;> rw [e] <;> simp
/-- The map of the locks is another one. -/
theorem ScAt.toL (h : ScAt w p lab A n vw vq va bs bl MS ML) {lab' : Nat → Own} {n' : Nat} {M' : Int → Option Value} {f' : Int → List Int} (hn : n ≤ n') (hs : Mp w' lab' .ml .lk bl n' M' f') (ho : ∀ b, b < w.heap.size → lab' b = lab b) (hl : ∀ b, lab' b ≠ .no → b < w'.heap.size)
    (hm : Mods (fun b => lab b = .ml ∨ ∃ k, lab b = .lk k) w w') : ScAt w' p lab' { A with lk := f' } n' vw vq va bs bl MS M' ∧ Keep lab w lab' w' := by
  have hlt := h.lt
  have kp : ∀ b, lab b ≠ .no → lab b ≠ .ml → (∀ k, lab b ≠ .lk k) → w'.heap[b]? = w.heap[b]? := fun b e1 e2 e3 => hm.block b (hlt b e1) (fun e => e.elim e2 (fun ⟨k, e⟩ => e3 k e))
  have old : ∀ {b : Nat} {c : Own}, c ≠ .no → lab b = c → lab' b = c := fun {b c} hc e => by rw [ho b (hlt b (by rw [e]; exact hc))]; exact e
  refine ⟨⟨hl, (kp p (by rw [h.lp]; simp) (by rw [h.lp]; simp) (by rw [h.lp]; simp)).trans h.box, old (by simp) h.lp, h.cw.keep (fun b e => kp b (by rw [e]; simp) (by rw [e]; simp) (by rw [e]; simp)) (fun b e => old (by simp) e), h.cq.keep (fun b e => kp b (by rw [e]; simp) (by rw [e]; simp) (by rw [e]; simp)) (fun b e => old (by simp) e), h.ca.keep (fun b e => kp b (by rw [e]; simp) (by rw [e]; simp) (by rw [e]; simp)) (fun b e => old (by simp) e),
    ((h.cs.mono hn).keep (fun b e => kp b (by rw [e]; simp) (by rw [e]; simp) (by rw [e]; simp)) (fun b k e => kp b (by rw [e]; simp) (by rw [e]; simp) (by rw [e]; simp)) (fun b e => old (by simp) e) (fun b k e => old (by simp) e)), hs⟩, ho, hm.weak (fun b e => .inl ?_)⟩
  rcases e with e | ⟨k, e⟩ <;> rw [e] <;> simp
end
end Go.Proofs.Ytacmdhlemolngaa
