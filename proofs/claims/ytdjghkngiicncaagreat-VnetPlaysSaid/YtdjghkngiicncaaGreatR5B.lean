/- The document's card and port over one memory, and who owns which block. -/
import Derived.Test.YtdjghkngiicncaaGreatR5A
namespace Go.Proofs.YtdjghkngiicncaaGreat
open Go.RowKit

structure Rb where
  g : Nat
  pc : Nat
  pp : Nat
  di : Nat
  dq : Nat
  vi : Nat
  vo : Nat
def rmemV (B : Rb) (H : Nh) : Value := .slice (some ⟨B.g, 0, none⟩) H.N H.N
def rcardC (B : Rb) (H : Nh) (v1 v2 : Value) : Array Value := #[.pointer (some ⟨B.di, 0, none⟩), .pointer (some ⟨B.dq, 0, none⟩), rmemV B H, .int .i64 H.base, .int .i64 H.n, v1, v2]
def rportC (B : Rb) (H : Nh) : Array Value := #[.pointer (some ⟨B.vi, 0, none⟩), .pointer (some ⟨B.vo, 0, none⟩), rmemV B H]
def hds (A : Abs) : List Nat := A.fl.map (·.1)
structure RNetAt (w : World) (lab : Nat → Nat) (B : Rb) (H : Nh) (S : Ns) (v1 v2 : Value) (l1 l2 : List Nat) : Prop where
  lt : ∀ b, lab b ≠ 0 → b < w.heap.size
  di : RDrv w B.di B.g H.qi S.Ai (fun b => lab b = 1)
  dq : RDrv w B.dq B.g H.qo S.Ao (fun b => lab b = 2)
  vi : RDev w B.vi B.g H.N H.N H.base H.n S.oi S.ui
  vo : RDev w B.vo B.g H.N H.N (H.base + (8 + 26 * H.n)) H.n S.oo S.uo
  mem : Mem w B.g H.N S.f
  card : w.heap[B.pc]? = some (.cells (rcardC B H v1 v2) 60 (0, 0))
  port : w.heap[B.pp]? = some (.cells (rportC B H) 73 (0, 0))
  r1 : PRow w v1 l1
  r2 : PRow w v2 l2
  l3 : lab B.vi = 3
  l4 : lab B.vo = 4
  l5 : lab B.g = 5
  l6 : lab B.pc = 6
  l7 : lab B.pp = 7
  l8 : ∀ b, v1.ownBlock = some b → lab b = 8
  l9 : ∀ b, v2.ownBlock = some b → lab b = 9
  wi : Wf H.n S.Ai
  wo : Wf H.n S.Ao
  oi : One S.Ai
  oo : One S.Ao
def RNet (w : World) (lab : Nat → Nat) (B : Rb) (H : Nh) (S : Ns) : Prop := ∃ v1 v2, RNetAt w lab B H S v1 v2 (hds S.Ai) (hds S.Ao)
section
variable {w w' : World} {lab : Nat → Nat} {B : Rb} {H : Nh} {S : Ns} {v1 v2 : Value} {l1 l2 : List Nat}
theorem RNetAt.oki (h : RNetAt w lab B H S v1 v2 l1 l2) : Ok H.qi S.i := ⟨h.mem.2, h.vi.2.1, h.vi.2.2.1, h.wi⟩
theorem RNetAt.oko (h : RNetAt w lab B H S v1 v2 l1 l2) : Ok H.qo S.o := ⟨h.mem.2, h.vo.2.1, h.vo.2.2.1, h.wo⟩
theorem RNetAt.cells (h : RNetAt w lab B H S v1 v2 l1 l2) : w.cell? ⟨B.pc, 0, none⟩ = some (.pointer (some ⟨B.di, 0, none⟩)) ∧ w.cell? ⟨B.pc, 1, none⟩ = some (.pointer (some ⟨B.dq, 0, none⟩)) ∧ w.cell? ⟨B.pc, 2, none⟩ = some (.slice (some ⟨B.g, 0, none⟩) H.N H.N) ∧ w.cell? ⟨B.pc, 3, none⟩ = some (.int .i64 H.base) ∧ w.cell? ⟨B.pc, 4, none⟩ = some (.int .i64 H.n) ∧ w.cell? ⟨B.pc, 5, none⟩ = some v1 ∧ w.cell? ⟨B.pc, 6, none⟩ = some v2 ∧ w.frozen? ⟨B.pc, 5, none⟩ = false ∧ w.frozen? ⟨B.pc, 6, none⟩ = false :=
  ⟨cell_of h.card rfl, cell_of h.card rfl, cell_of h.card rfl, cell_of h.card rfl, cell_of h.card rfl, cell_of h.card rfl, cell_of h.card rfl, by unfold World.frozen?; simp [h.card], by unfold World.frozen?; simp [h.card]⟩
theorem RNetAt.pcells (h : RNetAt w lab B H S v1 v2 l1 l2) : w.cell? ⟨B.pp, 0, none⟩ = some (.pointer (some ⟨B.vi, 0, none⟩)) ∧ w.cell? ⟨B.pp, 1, none⟩ = some (.pointer (some ⟨B.vo, 0, none⟩)) ∧ w.cell? ⟨B.pp, 2, none⟩ = some (.slice (some ⟨B.g, 0, none⟩) H.N H.N) :=
  ⟨cell_of h.port rfl, cell_of h.port rfl, cell_of h.port rfl⟩
theorem RNetAt.toDI (h : RNetAt w lab B H S v1 v2 l1 l2) {A' : Abs} {f' : Nat → Int} (hs : RStep w w' B.di B.g H.qi A' (fun b => lab b = 1)) (hm : Mem w' B.g H.N f') (hw : Wf H.n A') (h1 : One A') :
    ∃ lab', RNetAt w' lab' B H { S with Ai := A', f := f' } v1 v2 l1 l2 ∧ Keep lab w lab' w' := by
  obtain ⟨nw, hd, ha, hmo⟩ := hs
  have hnw := hd.lt
  have hP : ∀ b, (lab b = 1 ∨ b = B.g) → lab b = 1 ∨ lab b = 5 := fun b e => by
    rcases e with e | e
    · exact .inl e
    · exact .inr (by rw [e]; exact h.l5)
  have old : ∀ {b j}, lab b = j → j ≠ 0 → relab w lab nw 1 b = j := fun {b j} e hj => by rw [relab_old (h.lt b (by omega))]; exact e
  have hlt : ∀ b, relab w lab nw 1 b ≠ 0 → b < w'.heap.size := fun b hb => by
    by_cases e : b < w.heap.size
    · exact Nat.lt_of_lt_of_le e hmo.size
    · exact hnw b (relab_new (by omega) hb)
  have kp : ∀ b, lab b ≠ 0 → lab b ≠ 1 → lab b ≠ 5 → w'.heap[b]? = w.heap[b]? := fun b e1 n0 n1 => hmo.block b (h.lt b e1) (fun e => by have := hP b e; omega)
  refine ⟨relab w lab nw 1, ⟨hlt, (hd.up (fun b hb => (ha b hb).elim (fun e => old e (by omega)) (fun e => relab_yes e hb)) (fun b hb => hlt b (by rw [hb]; omega)) (by show ¬ _ = 1; rw [old h.l5 (by omega)]; omega)), (h.dq.mods hmo (fun b e1 e2 => by have := hP b e2; omega)).up (fun b hb => old hb (by omega)) (fun b hb => hlt b (by rw [hb]; omega)) (by show ¬ _ = 2; rw [old h.l5 (by omega)]; omega), h.vi.keep (kp _ (by rw [h.l3]; omega) (by rw [h.l3]; omega) (by rw [h.l3]; omega)), h.vo.keep (kp _ (by rw [h.l4]; omega) (by rw [h.l4]; omega) (by rw [h.l4]; omega)), hm, (kp _ (by rw [h.l6]; omega) (by rw [h.l6]; omega) (by rw [h.l6]; omega)).trans h.card, (kp _ (by rw [h.l7]; omega) (by rw [h.l7]; omega) (by rw [h.l7]; omega)).trans h.port, h.r1.keep (fun b hb => kp b (by rw [h.l8 b hb]; omega) (by rw [h.l8 b hb]; omega) (by rw [h.l8 b hb]; omega)), h.r2.keep (fun b hb => kp b (by rw [h.l9 b hb]; omega) (by rw [h.l9 b hb]; omega) (by rw [h.l9 b hb]; omega)), old h.l3 (by omega), old h.l4 (by omega), old h.l5 (by omega), old h.l6 (by omega), old h.l7 (by omega), fun b hb => old (h.l8 b hb) (by omega), fun b hb => old (h.l9 b hb) (by omega), hw, h.wo, h1, h.oo⟩, ⟨fun b hb => relab_old hb, hmo.weak (fun b e => .inl (by have := hP b e; omega))⟩⟩
theorem RNetAt.toDO (h : RNetAt w lab B H S v1 v2 l1 l2) {A' : Abs} {f' : Nat → Int} (hs : RStep w w' B.dq B.g H.qo A' (fun b => lab b = 2)) (hm : Mem w' B.g H.N f') (hw : Wf H.n A') (h1 : One A') :
    ∃ lab', RNetAt w' lab' B H { S with Ao := A', f := f' } v1 v2 l1 l2 ∧ Keep lab w lab' w' := by
  obtain ⟨nw, hd, ha, hmo⟩ := hs
  have hnw := hd.lt
  have hP : ∀ b, (lab b = 2 ∨ b = B.g) → lab b = 2 ∨ lab b = 5 := fun b e => by
    rcases e with e | e
    · exact .inl e
    · exact .inr (by rw [e]; exact h.l5)
  have old : ∀ {b j}, lab b = j → j ≠ 0 → relab w lab nw 2 b = j := fun {b j} e hj => by rw [relab_old (h.lt b (by omega))]; exact e
  have hlt : ∀ b, relab w lab nw 2 b ≠ 0 → b < w'.heap.size := fun b hb => by
    by_cases e : b < w.heap.size
    · exact Nat.lt_of_lt_of_le e hmo.size
    · exact hnw b (relab_new (by omega) hb)
  have kp : ∀ b, lab b ≠ 0 → lab b ≠ 2 → lab b ≠ 5 → w'.heap[b]? = w.heap[b]? := fun b e1 n0 n1 => hmo.block b (h.lt b e1) (fun e => by have := hP b e; omega)
  refine ⟨relab w lab nw 2, ⟨hlt, (h.di.mods hmo (fun b e1 e2 => by have := hP b e2; omega)).up (fun b hb => old hb (by omega)) (fun b hb => hlt b (by rw [hb]; omega)) (by show ¬ _ = 1; rw [old h.l5 (by omega)]; omega), (hd.up (fun b hb => (ha b hb).elim (fun e => old e (by omega)) (fun e => relab_yes e hb)) (fun b hb => hlt b (by rw [hb]; omega)) (by show ¬ _ = 2; rw [old h.l5 (by omega)]; omega)), h.vi.keep (kp _ (by rw [h.l3]; omega) (by rw [h.l3]; omega) (by rw [h.l3]; omega)), h.vo.keep (kp _ (by rw [h.l4]; omega) (by rw [h.l4]; omega) (by rw [h.l4]; omega)), hm, (kp _ (by rw [h.l6]; omega) (by rw [h.l6]; omega) (by rw [h.l6]; omega)).trans h.card, (kp _ (by rw [h.l7]; omega) (by rw [h.l7]; omega) (by rw [h.l7]; omega)).trans h.port, h.r1.keep (fun b hb => kp b (by rw [h.l8 b hb]; omega) (by rw [h.l8 b hb]; omega) (by rw [h.l8 b hb]; omega)), h.r2.keep (fun b hb => kp b (by rw [h.l9 b hb]; omega) (by rw [h.l9 b hb]; omega) (by rw [h.l9 b hb]; omega)), old h.l3 (by omega), old h.l4 (by omega), old h.l5 (by omega), old h.l6 (by omega), old h.l7 (by omega), fun b hb => old (h.l8 b hb) (by omega), fun b hb => old (h.l9 b hb) (by omega), h.wi, hw, h.oi, h1⟩, ⟨fun b hb => relab_old hb, hmo.weak (fun b e => .inl (by have := hP b e; omega))⟩⟩
theorem RNetAt.toVI (h : RNetAt w lab B H S v1 v2 l1 l2) {f' : Nat → Int} {o' u' : Nat} (hd : RDev w' B.vi B.g H.N H.N H.base H.n o' u') (hm : Mem w' B.g H.N f') (hmo : Mods (fun b => b = B.vi ∨ b = B.g) w w') :
    ∃ lab', RNetAt w' lab' B H { S with oi := o', ui := u', f := f' } v1 v2 l1 l2 ∧ Keep lab w lab' w' := by
  have hP : ∀ b, (b = B.vi ∨ b = B.g) → lab b = 3 ∨ lab b = 5 := fun b e => by
    rcases e with e | e
    · exact .inl (by rw [e]; exact h.l3)
    · exact .inr (by rw [e]; exact h.l5)
  have hlt : ∀ b, lab b ≠ 0 → b < w'.heap.size := fun b hb => Nat.lt_of_lt_of_le (h.lt b hb) hmo.size
  have old : ∀ {b j}, lab b = j → j ≠ 0 → lab b = j := fun {b j} e _ => e
  have kp : ∀ b, lab b ≠ 0 → lab b ≠ 3 → lab b ≠ 5 → w'.heap[b]? = w.heap[b]? := fun b e1 n0 n1 => hmo.block b (h.lt b e1) (fun e => by have := hP b e; omega)
  refine ⟨lab, ⟨hlt, (h.di.mods hmo (fun b e1 e2 => by have := hP b e2; omega)).up (fun b hb => old hb (by omega)) (fun b hb => hlt b (by rw [hb]; omega)) (by show ¬ _ = 1; rw [old h.l5 (by omega)]; omega), (h.dq.mods hmo (fun b e1 e2 => by have := hP b e2; omega)).up (fun b hb => old hb (by omega)) (fun b hb => hlt b (by rw [hb]; omega)) (by show ¬ _ = 2; rw [old h.l5 (by omega)]; omega), hd, h.vo.keep (kp _ (by rw [h.l4]; omega) (by rw [h.l4]; omega) (by rw [h.l4]; omega)), hm, (kp _ (by rw [h.l6]; omega) (by rw [h.l6]; omega) (by rw [h.l6]; omega)).trans h.card, (kp _ (by rw [h.l7]; omega) (by rw [h.l7]; omega) (by rw [h.l7]; omega)).trans h.port, h.r1.keep (fun b hb => kp b (by rw [h.l8 b hb]; omega) (by rw [h.l8 b hb]; omega) (by rw [h.l8 b hb]; omega)), h.r2.keep (fun b hb => kp b (by rw [h.l9 b hb]; omega) (by rw [h.l9 b hb]; omega) (by rw [h.l9 b hb]; omega)), old h.l3 (by omega), old h.l4 (by omega), old h.l5 (by omega), old h.l6 (by omega), old h.l7 (by omega), fun b hb => old (h.l8 b hb) (by omega), fun b hb => old (h.l9 b hb) (by omega), h.wi, h.wo, h.oi, h.oo⟩, ⟨fun _ _ => rfl, hmo.weak (fun b e => .inl (by have := hP b e; omega))⟩⟩
theorem RNetAt.toVO (h : RNetAt w lab B H S v1 v2 l1 l2) {f' : Nat → Int} {o' u' : Nat} (hd : RDev w' B.vo B.g H.N H.N (H.base + (8 + 26 * H.n)) H.n o' u') (hm : Mem w' B.g H.N f') (hmo : Mods (fun b => b = B.vo ∨ b = B.g) w w') :
    ∃ lab', RNetAt w' lab' B H { S with oo := o', uo := u', f := f' } v1 v2 l1 l2 ∧ Keep lab w lab' w' := by
  have hP : ∀ b, (b = B.vo ∨ b = B.g) → lab b = 4 ∨ lab b = 5 := fun b e => by
    rcases e with e | e
    · exact .inl (by rw [e]; exact h.l4)
    · exact .inr (by rw [e]; exact h.l5)
  have hlt : ∀ b, lab b ≠ 0 → b < w'.heap.size := fun b hb => Nat.lt_of_lt_of_le (h.lt b hb) hmo.size
  have old : ∀ {b j}, lab b = j → j ≠ 0 → lab b = j := fun {b j} e _ => e
  have kp : ∀ b, lab b ≠ 0 → lab b ≠ 4 → lab b ≠ 5 → w'.heap[b]? = w.heap[b]? := fun b e1 n0 n1 => hmo.block b (h.lt b e1) (fun e => by have := hP b e; omega)
  refine ⟨lab, ⟨hlt, (h.di.mods hmo (fun b e1 e2 => by have := hP b e2; omega)).up (fun b hb => old hb (by omega)) (fun b hb => hlt b (by rw [hb]; omega)) (by show ¬ _ = 1; rw [old h.l5 (by omega)]; omega), (h.dq.mods hmo (fun b e1 e2 => by have := hP b e2; omega)).up (fun b hb => old hb (by omega)) (fun b hb => hlt b (by rw [hb]; omega)) (by show ¬ _ = 2; rw [old h.l5 (by omega)]; omega), h.vi.keep (kp _ (by rw [h.l3]; omega) (by rw [h.l3]; omega) (by rw [h.l3]; omega)), hd, hm, (kp _ (by rw [h.l6]; omega) (by rw [h.l6]; omega) (by rw [h.l6]; omega)).trans h.card, (kp _ (by rw [h.l7]; omega) (by rw [h.l7]; omega) (by rw [h.l7]; omega)).trans h.port, h.r1.keep (fun b hb => kp b (by rw [h.l8 b hb]; omega) (by rw [h.l8 b hb]; omega) (by rw [h.l8 b hb]; omega)), h.r2.keep (fun b hb => kp b (by rw [h.l9 b hb]; omega) (by rw [h.l9 b hb]; omega) (by rw [h.l9 b hb]; omega)), old h.l3 (by omega), old h.l4 (by omega), old h.l5 (by omega), old h.l6 (by omega), old h.l7 (by omega), fun b hb => old (h.l8 b hb) (by omega), fun b hb => old (h.l9 b hb) (by omega), h.wi, h.wo, h.oi, h.oo⟩, ⟨fun _ _ => rfl, hmo.weak (fun b e => .inl (by have := hP b e; omega))⟩⟩
theorem RNetAt.toR1 (h : RNetAt w lab B H S v1 v2 l1 l2) {v' : Value} {l' : List Nat} (hc : w'.heap[B.pc]? = some (.cells (rcardC B H v' v2) 60 (0, 0))) (hr : PRow w' v' l') (hmo : Mods (fun b => b = B.pc ∨ v1.ownBlock = some b) w w') (hv : ∀ b, v'.ownBlock = some b → v1.ownBlock = some b ∨ w.heap.size ≤ b) :
    ∃ lab', RNetAt w' lab' B H S v' v2 l' l2 ∧ Keep lab w lab' w' := by
  have hnw : ∀ b, v'.ownBlock = some b → b < w'.heap.size := fun b hb => hr.lt hb
  obtain ⟨nw, hnn⟩ : ∃ nw : Nat → Prop, nw = (fun b => v'.ownBlock = some b) := ⟨_, rfl⟩
  replace hnw : ∀ b, nw b → b < w'.heap.size := by rw [hnn]; exact hnw
  have hP : ∀ b, (b = B.pc ∨ v1.ownBlock = some b) → lab b = 6 ∨ lab b = 8 := fun b e => by
    rcases e with e | e
    · exact .inl (by rw [e]; exact h.l6)
    · exact .inr (h.l8 b e)
  have old : ∀ {b j}, lab b = j → j ≠ 0 → relab w lab nw 8 b = j := fun {b j} e hj => by rw [relab_old (h.lt b (by omega))]; exact e
  have hlt : ∀ b, relab w lab nw 8 b ≠ 0 → b < w'.heap.size := fun b hb => by
    by_cases e : b < w.heap.size
    · exact Nat.lt_of_lt_of_le e hmo.size
    · exact hnw b (relab_new (by omega) hb)
  have kp : ∀ b, lab b ≠ 0 → lab b ≠ 6 → lab b ≠ 8 → w'.heap[b]? = w.heap[b]? := fun b e1 n0 n1 => hmo.block b (h.lt b e1) (fun e => by have := hP b e; omega)
  refine ⟨relab w lab nw 8, ⟨hlt, (h.di.mods hmo (fun b e1 e2 => by have := hP b e2; omega)).up (fun b hb => old hb (by omega)) (fun b hb => hlt b (by rw [hb]; omega)) (by show ¬ _ = 1; rw [old h.l5 (by omega)]; omega), (h.dq.mods hmo (fun b e1 e2 => by have := hP b e2; omega)).up (fun b hb => old hb (by omega)) (fun b hb => hlt b (by rw [hb]; omega)) (by show ¬ _ = 2; rw [old h.l5 (by omega)]; omega), h.vi.keep (kp _ (by rw [h.l3]; omega) (by rw [h.l3]; omega) (by rw [h.l3]; omega)), h.vo.keep (kp _ (by rw [h.l4]; omega) (by rw [h.l4]; omega) (by rw [h.l4]; omega)), h.mem.keep (kp _ (by rw [h.l5]; omega) (by rw [h.l5]; omega) (by rw [h.l5]; omega)), hc, (kp _ (by rw [h.l7]; omega) (by rw [h.l7]; omega) (by rw [h.l7]; omega)).trans h.port, hr, h.r2.keep (fun b hb => kp b (by rw [h.l9 b hb]; omega) (by rw [h.l9 b hb]; omega) (by rw [h.l9 b hb]; omega)), old h.l3 (by omega), old h.l4 (by omega), old h.l5 (by omega), old h.l6 (by omega), old h.l7 (by omega), fun b hb => (hv b hb).elim (fun e => old (h.l8 b e) (by omega)) (fun e => relab_yes e (by rw [hnn]; exact hb)), fun b hb => old (h.l9 b hb) (by omega), h.wi, h.wo, h.oi, h.oo⟩, ⟨fun b hb => relab_old hb, hmo.weak (fun b e => .inl (by have := hP b e; omega))⟩⟩
theorem RNetAt.toR2 (h : RNetAt w lab B H S v1 v2 l1 l2) {v' : Value} {l' : List Nat} (hc : w'.heap[B.pc]? = some (.cells (rcardC B H v1 v') 60 (0, 0))) (hr : PRow w' v' l') (hmo : Mods (fun b => b = B.pc ∨ v2.ownBlock = some b) w w') (hv : ∀ b, v'.ownBlock = some b → v2.ownBlock = some b ∨ w.heap.size ≤ b) :
    ∃ lab', RNetAt w' lab' B H S v1 v' l1 l' ∧ Keep lab w lab' w' := by
  have hnw : ∀ b, v'.ownBlock = some b → b < w'.heap.size := fun b hb => hr.lt hb
  obtain ⟨nw, hnn⟩ : ∃ nw : Nat → Prop, nw = (fun b => v'.ownBlock = some b) := ⟨_, rfl⟩
  replace hnw : ∀ b, nw b → b < w'.heap.size := by rw [hnn]; exact hnw
  have hP : ∀ b, (b = B.pc ∨ v2.ownBlock = some b) → lab b = 6 ∨ lab b = 9 := fun b e => by
    rcases e with e | e
    · exact .inl (by rw [e]; exact h.l6)
    · exact .inr (h.l9 b e)
  have old : ∀ {b j}, lab b = j → j ≠ 0 → relab w lab nw 9 b = j := fun {b j} e hj => by rw [relab_old (h.lt b (by omega))]; exact e
  have hlt : ∀ b, relab w lab nw 9 b ≠ 0 → b < w'.heap.size := fun b hb => by
    by_cases e : b < w.heap.size
    · exact Nat.lt_of_lt_of_le e hmo.size
    · exact hnw b (relab_new (by omega) hb)
  have kp : ∀ b, lab b ≠ 0 → lab b ≠ 6 → lab b ≠ 9 → w'.heap[b]? = w.heap[b]? := fun b e1 n0 n1 => hmo.block b (h.lt b e1) (fun e => by have := hP b e; omega)
  refine ⟨relab w lab nw 9, ⟨hlt, (h.di.mods hmo (fun b e1 e2 => by have := hP b e2; omega)).up (fun b hb => old hb (by omega)) (fun b hb => hlt b (by rw [hb]; omega)) (by show ¬ _ = 1; rw [old h.l5 (by omega)]; omega), (h.dq.mods hmo (fun b e1 e2 => by have := hP b e2; omega)).up (fun b hb => old hb (by omega)) (fun b hb => hlt b (by rw [hb]; omega)) (by show ¬ _ = 2; rw [old h.l5 (by omega)]; omega), h.vi.keep (kp _ (by rw [h.l3]; omega) (by rw [h.l3]; omega) (by rw [h.l3]; omega)), h.vo.keep (kp _ (by rw [h.l4]; omega) (by rw [h.l4]; omega) (by rw [h.l4]; omega)), h.mem.keep (kp _ (by rw [h.l5]; omega) (by rw [h.l5]; omega) (by rw [h.l5]; omega)), hc, (kp _ (by rw [h.l7]; omega) (by rw [h.l7]; omega) (by rw [h.l7]; omega)).trans h.port, h.r1.keep (fun b hb => kp b (by rw [h.l8 b hb]; omega) (by rw [h.l8 b hb]; omega) (by rw [h.l8 b hb]; omega)), hr, old h.l3 (by omega), old h.l4 (by omega), old h.l5 (by omega), old h.l6 (by omega), old h.l7 (by omega), fun b hb => old (h.l8 b hb) (by omega), fun b hb => (hv b hb).elim (fun e => old (h.l9 b e) (by omega)) (fun e => relab_yes e (by rw [hnn]; exact hb)), h.wi, h.wo, h.oi, h.oo⟩, ⟨fun b hb => relab_old hb, hmo.weak (fun b e => .inl (by have := hP b e; omega))⟩⟩
theorem RNetAt.outside (h : RNetAt w lab B H S v1 v2 l1 l2) {P : Nat → Prop} (hm : Mods P w w') (hP : ∀ b, P b → lab b = 0) : RNetAt w' lab B H S v1 v2 l1 l2 :=
  have kp : ∀ b, lab b ≠ 0 → w'.heap[b]? = w.heap[b]? := fun b e => hm.block b (h.lt b e) (fun e2 => e (hP b e2))
  ⟨fun b e => Nat.lt_of_lt_of_le (h.lt b e) hm.size, h.di.mods hm (fun b e1 e2 => by have := hP b e2; omega), h.dq.mods hm (fun b e1 e2 => by have := hP b e2; omega), h.vi.keep (kp _ (by rw [h.l3]; omega)), h.vo.keep (kp _ (by rw [h.l4]; omega)), h.mem.keep (kp _ (by rw [h.l5]; omega)), (kp _ (by rw [h.l6]; omega)).trans h.card, (kp _ (by rw [h.l7]; omega)).trans h.port,
    h.r1.keep (fun b hb => kp b (by rw [h.l8 b hb]; omega)), h.r2.keep (fun b hb => kp b (by rw [h.l9 b hb]; omega)), h.l3, h.l4, h.l5, h.l6, h.l7, h.l8, h.l9, h.wi, h.wo, h.oi, h.oo⟩
theorem RNetAt.below (h : RNetAt w lab B H S v1 v2 l1 l2) (hb : Below w.heap.size w w') : RNetAt w' lab B H S v1 v2 l1 l2 := h.outside (Mods.of_below (al := fun _ => False) hb) (fun _ e => e.elim)
end
end Go.Proofs.YtdjghkngiicncaaGreat
